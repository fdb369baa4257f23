/- Joined texts: Numbers, Encode, Grids2, Solved, Grew, MatI2, MatI3. -/
import Derived.Test.YtfglkgeeelapgaaDoorBd13
import Derived.Test.YtfglkgeeelapgaaDoorBd11
import Derived.Test.YtfglkgeeelapgaaDoorBd08
import Derived.Test.YtfglkgeeelapgaaDoorBd15
import Derived.Test.YtfglkgeeelapgaaDoorBd14
import Derived.Test.YtfglkgeeelapgaaDoorBd07
import Derived.Test.YtfglkgeeelapgaaDoorBd03
import Derived.Test.YtfglkgeeelapgaaDoorBd05
import Derived.Test.YtfglkgeeelapgaaDoorBd02
import Derived.Deep.QuietTactic
set_option linter.unusedSimpArgs false
set_option linter.unusedVariables false
/- numbersOf and rowsAt, the program's. -/
namespace G294
open Go Go.RowKit
/-- the rows that numbers name -/
def pickM (L : Mat) (nos : List Int) : Mat := nos.map fun n => L.getD n.toNat []
/-- those rows as values -/
def pickV (vs : List Value) (nos : List Int) : List Value := nos.map fun n => vs.getD n.toNat undef
@[simp] theorem pickM_length (L : Mat) (nos : List Int) : (pickM L nos).length = nos.length := by simp [pickM]
@[simp] theorem pickV_length (vs : List Value) (nos : List Int) : (pickV vs nos).length = nos.length := by simp [pickV]
theorem pickM_mk {r c : Nat} {F : Ents} {nos : List Int} (h : ∀ i, i < nos.length → 0 ≤ nos.getD i 0 ∧ nos.getD i 0 < (r : Int)) : pickM (mkM r c F) nos = mkM nos.length c (fun i j => F (nos.getD i 0).toNat j) := by
  apply List.ext_getElem
  · simp
  · intro i h1 h2
    have hi : i < nos.length := by simpa using h1
    have hh := h i hi
    have e : nos.getD i 0 = nos[i] := by simp [List.getD, hi]
    rw [e] at hh
    have e2 : (mkM r c F).getD nos[i].toNat [] = mkRow c (F nos[i].toNat) := mkM_getD _ _ _ _ (by omega)
    simp only [pickM, List.getElem_map, e2]
    have e3 : nos[i]?.getD 0 = nos[i] := by simpa [List.getD] using e
    simp [mkM, e3]
theorem pick_seen {w w' : World} {u : Value} {L : Mat} {vs : List Value} {nos : List Int} (hl : vs.length = L.length) (hs : ∀ (i : Nat) (u : Value), vs[i]? = some u → Seen w u (bys (L.getD i [])))
    (hno : ∀ i, i < nos.length → 0 ≤ nos.getD i 0 ∧ nos.getD i 0 < (L.length : Int)) (hb : Below w.heap.size w w') (hu : Seen w' u (pickV vs nos)) : SeenM w' u (pickM L nos) := by
  refine ⟨pickV vs nos, by simp, hu, fun i x hx => ?_⟩
  have hi : i < nos.length := by have := (List.getElem?_eq_some_iff.1 hx).1; simpa using this
  have hh := hno i hi
  have e : nos.getD i 0 = nos[i] := by simp [List.getD, hi]
  rw [e] at hh
  have hlt : nos[i].toNat < vs.length := by omega
  have ex : x = vs[nos[i].toNat] := by
    have : (pickV vs nos)[i]? = some (vs.getD nos[i].toNat undef) := by simp [pickV, hi]
    rw [this] at hx
    have := Option.some.inj hx
    rw [← this]; simp [List.getD, hlt]
  have em : (pickM L nos).getD i [] = L.getD nos[i].toNat [] := by simp [pickM, List.getD, hi]
  rw [em, ex]
  exact (hs _ _ (List.getElem?_eq_getElem hlt)).below hb
/-- rows are seen, handed back -/
def RetSeenM (w : World) (L : Mat) (e : Ending) (w' : World) : Prop := ∃ A n c, e = .returned (.agg #[.slice A n c]) ∧ SeenM w' (.slice A n c) L ∧ TurnIn 0 0 w w'
end G294
namespace Go.Proofs.YtfglkgeeelapgaaDoor
open Go.RowKit G294

end Go.Proofs.YtfglkgeeelapgaaDoor

/- EncodeShards: the program's. -/
namespace Go.Proofs.YtfglkgeeelapgaaDoor
open Go.RowKit Go.Shelf G294

attribute [local go_sem] Oper.semAt_some

end Go.Proofs.YtfglkgeeelapgaaDoor

/- sideBySide, multiplied, solved, fieldGrid, matrixOf. -/
namespace Go.Proofs.YtfglkgeeelapgaaDoor
open Go.RowKit G294

set_option maxRecDepth 100000 in
set_option maxHeartbeats 1000000 in
theorem sideAt (r n c Bw Bl Br : Nat) (F G : Ents) (v u : Value) (w : World) (hBw : Bw < w.heap.size) (hBl : Bl < w.heap.size) (hBr : Br < w.heap.size) (hn : n ≤ 1000) (hc : c ≤ 1000)
    (hw : w.cell? ⟨Bw, 0, none⟩ = some (.int .i64 n)) (hv : w.cell? ⟨Bl, 0, none⟩ = some v) (hu : w.cell? ⟨Br, 0, none⟩ = some u) (hs : SeenM w v (mkM r n F)) (ht : SeenM w u (mkM r c G)) :
    GivesAt Tryd.prog 153 #[.pointer (some ⟨Bw, 0, none⟩), .pointer (some ⟨Bl, 0, none⟩), .pointer (some ⟨Br, 0, none⟩)] r (n + c) (hcF n F G) w := by
  intro W i j hb hi hj
  have hw' := (hb.cell (p := ⟨Bw, 0, none⟩) hBw).trans hw
  have hv' := (hb.cell (p := ⟨Bl, 0, none⟩) hBl).trans hv
  have hu' := (hb.cell (p := ⟨Br, 0, none⟩) hBr).trans hu
  by_cases hjn : j < n
  · obtain ⟨bb, off, cp, b', off', c', rfl, hl1, h1, h2, h3, hl2, h4⟩ := (hs.below hb).cellF i j hi hjn
    have HF : Hid (hcF n F G i j = F i j) := if_pos hjn
    unfold maxLen at hl1 hl2
    have hi' : (i : Int) < (r : Int) := by omega
    have hj' : (j : Int) < (n : Int) := by omega
    clear hw hv hu hs ht hu'
    go_enter Tryd.func153, Tryd.ntmps153
    go_wp2_with fail
    go_ret
    exact ⟨by rw [HF.out]; rfl, 0, rfl⟩
  · obtain ⟨d, rfl⟩ : ∃ d, j = n + d := ⟨j - n, by omega⟩
    obtain ⟨bb, off, cp, b', off', c', rfl, hl1, h1, h2, h3, hl2, h4⟩ := (ht.below hb).cellF i d hi (by omega)
    have HF : Hid (hcF n F G i (n + d) = G i d) := by show hcF n F G i (n + d) = G i d; unfold hcF; rw [if_neg (by omega)]; congr 1; omega
    unfold maxLen at hl1 hl2
    have hi' : (i : Int) < (r : Int) := by omega
    have hi0 : (0 : Int) ≤ (i : Int) := Int.natCast_nonneg _
    have hd0 : (0 : Int) ≤ (d : Int) := Int.natCast_nonneg _
    have hd' : (d : Int) < (c : Int) := by omega
    obtain ⟨x, hx⟩ : ∃ x, x = n + d := ⟨_, rfl⟩
    rw [← hx] at HF hjn ⊢
    have hxx : IntKind.i64.wrap ((x : Int) - (n : Int)) = (d : Int) := by rw [IntWalk.i64_in _ (by omega)]; omega
    have hj' : ¬ (x : Int) < (n : Int) := by omega
    clear hw hv hu hs ht hv' hx hjn
    go_enter Tryd.func153, Tryd.ntmps153
    go_wp2_with fail
    go_quiet (fail)
    go_wp2_with fail
    go_ret
    exact ⟨by rw [HF.out]; rfl, _, rfl⟩

set_option maxRecDepth 100000 in
set_option maxHeartbeats 1000000 in
theorem solvedAt (r n c Bb Bn : Nat) (F : Ents) (v : Value) (w : World) (hBb : Bb < w.heap.size) (hBn : Bn < w.heap.size) (hn : n ≤ 1000) (hc : c ≤ 1000)
    (hv : w.cell? ⟨Bb, 0, none⟩ = some v) (hw : w.cell? ⟨Bn, 0, none⟩ = some (.int .i64 n)) (hs : SeenM w v (mkM r (n + c) F)) :
    GivesAt Tryd.prog 147 #[.pointer (some ⟨Bb, 0, none⟩), .pointer (some ⟨Bn, 0, none⟩)] r c (fun i j => F i (n + j)) w := by
  intro W i j hb hi hj
  have hw' := (hb.cell (p := ⟨Bn, 0, none⟩) hBn).trans hw
  have hv' := (hb.cell (p := ⟨Bb, 0, none⟩) hBb).trans hv
  obtain ⟨x, hx⟩ : ∃ x, x = n + j := ⟨_, rfl⟩
  obtain ⟨y, hy⟩ : ∃ y, y = n + c := ⟨_, rfl⟩
  rw [← hy] at hs
  obtain ⟨bb, off, cp, b', off', c', rfl, hl1, h1, h2, h3, hl2, h4⟩ := (hs.below hb).cellF i x hi (by omega)
  have HF : Hid (F i (n + j) = F i x) := by show F i (n + j) = F i x; rw [hx]
  unfold maxLen at hl1 hl2
  have hi' : (i : Int) < (r : Int) := by omega
  have hi0 : (0 : Int) ≤ (i : Int) := Int.natCast_nonneg _
  have hx0 : (0 : Int) ≤ (x : Int) := Int.natCast_nonneg _
  have hx' : (x : Int) < (y : Int) := by omega
  have hxx : IntKind.i64.wrap ((n : Int) + (j : Int)) = (x : Int) := by rw [IntWalk.i64_in _ (by omega)]; omega
  clear hw hv hs hx hy
  go_enter Tryd.func147, Tryd.ntmps147
  go_wp2_with fail
  go_quiet (fail)
  go_wp2_with fail
  go_ret
  exact ⟨by rw [HF.out]; rfl, _, rfl⟩

set_option maxHeartbeats 1000000 in
theorem fieldGrid_own (r c : Nat) (F : Ents) (v : Value) (w : World) (hs : SeenM w v (mkM r c F)) (hr : 1 ≤ r) (hr2 : r ≤ 1000) (hc : c ≤ 1000) :
    Calls Tryd.prog 132 #[.agg #[v]] w (RetM 143 169 w (mkM r c F)) := by
  have k1 : TurnIn 0 0 w (w.alloc (.cells #[v] 39)) := turn_alloc _ _
  have HS := Lib.hid (hs.touch k1)
  have K1 := Lib.hid k1
  obtain ⟨A, cp, hvv, _, _⟩ := hs.len
  rw [mkM_length] at hvv
  subst hvv
  clear hs k1
  go_enter Tryd.func132, Tryd.ntmps132
  go_wp2_with fail
  refine (convertedB r c F _ _ HS.out hr hr2 hc).mono ?_
  rintro e w' ⟨v', vs', rfl, hM, ht⟩
  go_wp2_with fail
  go_ret
  exact RetM.base ⟨_, _, rfl, hM, ht⟩ K1.out.to_below

set_option maxHeartbeats 1000000 in
theorem matrixOf_own (r c : Nat) (F : Ents) (v : Value) (w : World) (hs : SeenM w v (mkM r c F)) (hr : 1 ≤ r) (hr2 : r ≤ 1000) (hc : c ≤ 1000) :
    Calls Tryd.prog 134 #[v] w (RetMat 5 22 w (mkM r c F)) := by
  have k1 : TurnIn 0 0 w (w.alloc (.cells #[.slice none 0 0] 39)) := turn_alloc _ _
  have HS := Lib.hid (hs.touch k1)
  have K1 := Lib.hid k1
  obtain ⟨A, cp, hvv, _, _⟩ := hs.len
  rw [mkM_length] at hvv
  subst hvv
  clear hs k1
  go_enter Tryd.func134, Tryd.ntmps134
  go_wp2_with fail
  refine (convertedF r c F _ _ HS.out hr hr2 hc).mono ?_
  rintro e w' ⟨v', vs', rfl, hM, ht⟩
  obtain ⟨A', n', c', rfl⟩ := hM.isSlice
  have hq := cell_turn ht (B := w.heap.size) (o := 0) (x := .slice none 0 0) (by simp) (by simp)
  have hqf := frozen_turn ht (B := w.heap.size) (o := 0) (x := false) (by simp) (by simp)
  have HF := Lib.hid (ret_store K1.out.to_below hM ht w.heap.size 0 (Nat.le_refl _) (by simp) (.slice A' n' c'))
  clear hM ht
  go_wp2_with fail
  refine bodyPost_ret (v := .agg #[.slice A' n' c']) (by simp [results, Tryd.results134, go_sem, hq]) rfl ?_
  exact ⟨_, vs', rfl, HF.out.1, HF.out.2⟩
end Go.Proofs.YtfglkgeeelapgaaDoor

/- sideBySide and solved. -/
namespace G294
def solB (F : Ents) (n : Nat) : Bool := decide ((est F n n).2 = n)
end G294
namespace Go.Proofs.YtfglkgeeelapgaaDoor
open Go.RowKit G294

set_option maxRecDepth 100000 in
set_option maxHeartbeats 1000000 in
theorem sideBySide_own (r n c : Nat) (F G : Ents) (v u : Value) (w : World) (hs : SeenM w v (mkM r n F)) (hu : SeenM w u (mkM r c G)) (hr1 : 1 ≤ r) (hr : r ≤ 1000) (hn : n ≤ 400) (hc : c ≤ 400) :
    Calls Tryd.prog 144 #[v, u] w (RetM 143 169 w (mkM r (n + c) (hcF n F G))) := by
  have k3 : TurnIn 0 0 w (((w.alloc (.cells #[v] 140)).alloc (.cells #[u] 140)).alloc (.cells #[.int .i64 n] 3)) := turn_trans (turn_trans (turn_alloc _ _) (turn_alloc _ _) (by omega)) (turn_alloc _ _) (by omega)
  have z3 : (((w.alloc (.cells #[v] 140)).alloc (.cells #[u] 140)).alloc (.cells #[.int .i64 n] 3)).heap.size = w.heap.size + 3 := by simp
  have q1 : (((w.alloc (.cells #[v] 140)).alloc (.cells #[u] 140)).alloc (.cells #[.int .i64 n] 3)).cell? ⟨w.heap.size, 0, none⟩ = some v := cell_turn (turn_trans (turn_alloc _ _) (turn_alloc _ _) (by omega)) (show (w.alloc (.cells #[v] 140)).cell? ⟨w.heap.size, 0, none⟩ = some v by simp) (by simp)
  have q2 : (((w.alloc (.cells #[v] 140)).alloc (.cells #[u] 140)).alloc (.cells #[.int .i64 n] 3)).cell? ⟨w.heap.size + 1, 0, none⟩ = some u := alloc_mid_cell _ _ _ _ _
  have q3 : (((w.alloc (.cells #[v] 140)).alloc (.cells #[u] 140)).alloc (.cells #[.int .i64 n] 3)).cell? ⟨w.heap.size + 1 + 1, 0, none⟩ = some (.int .i64 n) := alloc_last_cell _ _ _ _ _
  have HG := Lib.hid (sideAt r n c (w.heap.size + 1 + 1) w.heap.size (w.heap.size + 1) F G v u _ (by omega) (by omega) (by omega) (by omega) (by omega) q3 q1 q2 (hs.touch k3) (hu.touch k3))
  obtain ⟨bb, off, cp, A1, c1, rfl, hl1, hbb, hrow0, hl2, _⟩ := hs.rowF 0 (by omega)
  obtain ⟨bb2, off2, cp2, A2, c2, rfl, hl3, hbb2, hrow2, hl4, _⟩ := hu.rowF 0 (by omega)
  rw [Nat.add_zero] at hrow0 hrow2
  have q5 := cell_turn k3 hrow2 hbb2
  have k2 : TurnIn 0 0 w ((w.alloc (.cells #[.slice (some ⟨bb, off, none⟩) r cp] 140)).alloc (.cells #[.slice (some ⟨bb2, off2, none⟩) r cp2] 140)) := turn_trans (turn_alloc _ _) (turn_alloc _ _) (by omega)
  have q6 := cell_turn k2 hrow0 hbb
  have K3 := Lib.hid k3
  have eg := enters_of Tryd.func153 (by kernel_rfl) rfl
  have hpos : 0 < r := hr1
  unfold maxLen at hl1 hl2 hl3 hl4
  clear hs hu k3 k2
  go_enter Tryd.func144, Tryd.ntmps144
  go_wp2_with fail
  generalize (((w.alloc (.cells #[.slice (some ⟨bb, off, none⟩) r cp] 140)).alloc (.cells #[.slice (some ⟨bb2, off2, none⟩) r cp2] 140)).alloc (.cells #[.int .i64 n] 3)) = w2 at *
  have Z3 := Lib.hid z3
  have hsum : IntKind.i64.wrap ((n : Int) + (c : Int)) = ((n + c : Nat) : Int) := by rw [IntWalk.i64_in _ (by omega)]; omega
  clear z3 q6
  go_region_held3 (fun w' => w'.cell? ⟨w.heap.size, 0, none⟩ = some (.slice (some ⟨bb, off, none⟩) r cp) ∧ w'.cell? ⟨w.heap.size + 1, 0, none⟩ = some (.slice (some ⟨bb2, off2, none⟩) r cp2) ∧ w'.cell? ⟨w.heap.size + 1 + 1, 0, none⟩ = some (.int .i64 n) ∧ w'.cell? ⟨bb2, off2, none⟩ = some (.slice A2 c c2))
    (first | exact ⟨q1, q2, q3, q5⟩ | exact ⟨y1, y2, y3, y5⟩)
    ((go_at_call 146; refine (newGridF r (n + c) _ _ _ w2.drew eg (HG.out.later (Below.refl _ _).drew) hr (by omega)).mono ?_; rintro e w' ⟨v', vs', rfl, hM, ht⟩; have z3 := Z3.out; have y1 := cell_turn ht (show w2.drew.cell? _ = _ from q1) (show _ < w2.heap.size by omega); have y2 := cell_turn ht (show w2.drew.cell? _ = _ from q2) (show _ < w2.heap.size by omega); have y3 := cell_turn ht (show w2.drew.cell? _ = _ from q3) (show _ < w2.heap.size by omega); have y5 := cell_turn ht (show w2.drew.cell? _ = _ from q5) (show _ < w2.heap.size by omega); clear z3))
  go_wp2_with fail
  go_ret
  exact RetM.base ⟨_, _, rfl, hM, ht⟩ K3.out.to_below.drew

def RetGridOk (E EE : TypeId) (w : World) (L : Mat) (ok : Bool) (e : Ending) (w' : World) : Prop := ∃ v vs, e = .returned (.tuple #[v, .bool ok]) ∧ OwnM E EE w' w.heap.size w'.heap.size v L vs ∧ TurnIn 0 0 w w'
abbrev solOk (F : Ents) (n : Nat) : Bool := solB F n
def solL (F G : Ents) (n c : Nat) : Mat := if solOk F n = true then mkM n c (bst F G n n) else []

set_option maxRecDepth 100000 in
set_option maxHeartbeats 2000000 in
theorem solved_own (n c : Nat) (F G : Ents) (v u : Value) (w : World) (hs : SeenM w v (mkM n n F)) (hu : SeenM w u (mkM n c G)) (hn1 : 1 ≤ n) (hn : n ≤ 400) (hc : c ≤ 400) (htab : Tab w) (h0 : 2 < w.heap.size) :
    Calls Tryd.prog 131 #[v, u] w (RetGridOk 143 169 w (solL F G n c) (solOk F n)) := by
  have k1 : TurnIn 0 0 w (w.alloc (.cells #[.int .i64 n] 3)) := turn_alloc _ _
  have q1 : (w.alloc (.cells #[.int .i64 n] 3)).cell? ⟨w.heap.size, 0, none⟩ = some (.int .i64 n) := by simp
  have z1 : (w.alloc (.cells #[.int .i64 n] 3)).heap.size = w.heap.size + 1 := by simp
  have HS := Lib.hid (hs.touch k1)
  have HU := Lib.hid (hu.touch k1)
  have HT := Lib.hid (htab.below k1.to_below h0)
  have hle := est_le F n n
  obtain ⟨A, cp, hvv, hl1, hl1'⟩ := hs.len
  rw [mkM_length] at hvv hl1
  obtain ⟨bb2, off2, cp2, A2, c2, rfl, hl3, hbb2, hrow2, hl4, _⟩ := hu.rowF 0 (by omega)
  rw [Nat.add_zero] at hrow2
  subst hvv
  have HR2 := Lib.hid hrow2
  have K1 := Lib.hid k1
  have hpos : 0 < n := hn1
  unfold maxLen at hl1' hl3 hl4
  clear hs hu htab k1 hrow2
  go_enter Tryd.func131, Tryd.ntmps131
  go_wp2_with fail
  generalize (w.alloc (.cells #[.int .i64 n] 3)) = w1 at *
  refine (sideBySide_own n n c F G _ _ _ HS.out HU.out hn1 (by omega) hn hc).mono ?_
  rintro e w2 ⟨y, vs, rfl, hM, ht⟩
  obtain ⟨g, cpb, rfl, hg1, hg2, hg3, hg4⟩ := hM.sliceF hn1
  have s2 := ht.size
  have p1 := cell_turn ht q1 (by omega)
  have k3 : TurnIn 0 0 w2 (w2.alloc (.cells #[.slice (some ⟨g, 0, none⟩) n cpb] 140)) := turn_alloc _ _
  have z3 : (w2.alloc (.cells #[.slice (some ⟨g, 0, none⟩) n cpb] 140)).heap.size = w2.heap.size + 1 := by simp
  have p2 := cell_turn k3 p1 (by omega)
  have p3 : (w2.alloc (.cells #[.slice (some ⟨g, 0, none⟩) n cpb] 140)).cell? ⟨w2.heap.size, 0, none⟩ = some (.slice (some ⟨g, 0, none⟩) n cpb) := by simp
  have HM := Lib.hid (hM.keep k3 (by omega))
  have K3 := Lib.hid (turn_trans ht k3 (by omega))
  have hT3 : Tab (w2.alloc (.cells #[.slice (some ⟨g, 0, none⟩) n cpb] 140)) := HT.out.below K3.out.to_below (by omega)
  have HT3 := Lib.hid hT3
  have Z3 := Lib.hid z3
  have hsz3 : w2.heap.size < (w2.alloc (.cells #[.slice (some ⟨g, 0, none⟩) n cpb] 140)).heap.size := by omega
  unfold maxLen at hg4
  clear hM ht k3 z3 p1 hT3 q1
  go_wp2_with fail
  generalize hw3 : (w2.alloc (.cells #[.slice (some ⟨g, 0, none⟩) n cpb] 140)) = w3 at *
  clear hw3
  have hgl : 2 < w1.heap.size := by omega
  go_region_held3 (fun w' => w'.cell? ⟨w.heap.size, 0, none⟩ = some (.int .i64 n) ∧ w'.cell? ⟨w2.heap.size, 0, none⟩ = some (.slice (some ⟨g, 0, none⟩) n cpb))
    (first | exact ⟨p2, p3⟩ | exact ⟨y2, y3⟩)
    ((go_at_call 145; refine (eliminate_any n (n + c) n _ _ (hcF n F G) _ vs w3.drew (HM.out.drewN 1) hn1 (by omega) (by omega) (by omega) HT3.out hgl).mono ?_; rintro e w4 ⟨vs4, rfl, hM4, hK4⟩; have y2 := (World.cell?_of_block (hK4.block w.heap.size (show w.heap.size < w3.heap.size by omega) (by omega))).trans (show w3.drew.cell? _ = _ from p2); have y3 := (World.cell?_of_block (hK4.block w2.heap.size (show w2.heap.size < w3.heap.size by omega) (by omega))).trans (show w3.drew.cell? _ = _ from p3)))
  rw [est_hc F G n n n (Nat.le_refl _)] at hM4 ⊢
  dsimp only at hM4 ⊢
  have kW4 : TurnIn 0 0 w w4 := turn_trans (turn_trans K1.out K3.out (by omega)) (⟨hK4.os, hK4.tape, hK4.output, hK4.size, hK4.block⟩ : TurnIn w1.heap.size w2.heap.size w3 w4) (by omega)
  have KW4 := Lib.hid kW4
  have s4 := hK4.size
  have s4' : w3.heap.size ≤ w4.heap.size := s4
  have hr4 := cell_turn kW4 HR2.out hbb2
  have HOK : Hid (solB F n = decide ((est F n n).2 = n)) := rfl
  have HLL : Hid (∀ b, solOk F n = b → solL F G n c = if b = true then mkM n c (bst F G n n) else []) := fun b h => by unfold solL; rw [h]
  have HG := Lib.hid (solvedAt n n c w2.heap.size w.heap.size (hcF n (est F n n).1 (bst F G n n)) _ w4 (by omega) (by omega) (by omega) (by omega) y3 y2 hM4.seen)
  have eg := enters_of Tryd.func147 (by kernel_rfl) rfl
  clear hM4 hK4 kW4 s4 p2 p3
  generalize (est F n n).2 = rk at *
  by_cases hrk : rk < n
  · have HO : Hid (solOk F n = false) := by show solB F n = false; rw [HOK.out]; simp; omega
    go_wp2_with fail
    go_ret2
    exact ⟨_, [], by rw [HO.out]; rfl, by rw [HLL.out false HO.out]; exact OwnM.nil _ _ _ _, KW4.out⟩
  · have HO : Hid (solOk F n = true) := by show solB F n = true; rw [HOK.out]; simp; omega
    have hd : decide (rk < n) = false := by simpa using hrk
    go_wp2_with fail
    go_region_held3 (fun w' => w'.cell? ⟨w.heap.size, 0, none⟩ = some (.int .i64 n) ∧ w'.cell? ⟨bb2, off2, none⟩ = some (.slice A2 c c2))
      (first | exact ⟨y2, hr4⟩ | exact ⟨x2, x3⟩)
      ((go_at_call 146; refine (newGridF n c _ _ _ w4.drew eg (HG.out.later (Below.refl _ _).drew) (by omega) (by omega)).mono ?_; rintro e w5 ⟨v5, vs5, rfl, hM5, ht5⟩; have x2 := cell_turn ht5 (show w4.drew.cell? _ = _ from y2) (show _ < w4.heap.size by omega); have x3 := cell_turn ht5 (show w4.drew.cell? _ = _ from hr4) (show _ < w4.heap.size by omega)))
    go_wp2_with fail
    go_ret2
    have hb5 := KW4.out.to_below.drew
    refine ⟨v5, vs5, by rw [HO.out]; rfl, ?_, turn_of_below hb5 ht5⟩
    rw [HLL.out true HO.out, if_pos rfl]
    exact (hM5.congr (mkM_congr fun i j _ _ => by unfold hcF; rw [if_neg (by omega)]; congr 1; omega)).wider hb5.size (Nat.le_refl _) (Nat.le_refl _)
end Go.Proofs.YtfglkgeeelapgaaDoor

/- Regions that draw their order, whose operations read and whose callees lay new memory alone and answer the same in all such worlds. -/
namespace G294
open Go Go.RowKit
structure Grew (w : World) where
  at_ : World
  old : Below w.heap.size w at_
instance (w : World) : Inhabited (Grew w) := ⟨⟨w, Below.refl _ _⟩⟩
instance (w : World) : Nonempty (Grew w) := ⟨default⟩
theorem wp_region_grew {P : Program} {id : Nat} {Q : Exit → Act → World → Prop} {a : Act} {w : World} {l : List Oper} (hm : P.follows .mixedOrders = true) (hB : Region.lexB .any l.toArray = true)
    (h : wpQuiet P l.toArray (fun w' => ∃ p : Grew w, w' = p.at_) (fun a' => ∀ w', (∃ p : Grew w, w' = p.at_) → Q .normal a' w') l a) : (Code.region id l.toArray true).wp P Q a w :=
  wp_region_quiet (C := fun w' => ∃ p : Grew w, w' = p.at_) hm hB ⟨⟨w.drew, (Below.refl _ _).drew⟩, rfl⟩ (by simpa using h)
theorem grew_bool {P : Program} {f : FuncId} {args : Array Value} {w : World} {p : Grew w} {b : Bool} (h : Calls P f args p.at_ (RetBool p.at_ b)) :
    Calls P f args p.at_ fun e w'' => e = .returned (.bool b) ∧ ∃ q : Grew w, w'' = q.at_ :=
  h.mono fun _ w'' ⟨he, ht⟩ => ⟨he, ⟨w'', ht.base p.old p.old.size (by omega)⟩, rfl⟩
theorem grew_cell {w : World} {B o : Nat} {x : Value} (h : w.cell? ⟨B, o, none⟩ = some x) (hB : B < w.heap.size) (p : Grew w) : p.at_.cell? ⟨B, o, none⟩ = some x := (p.old.cell (p := ⟨B, o, none⟩) hB).trans h
end G294

/- The program's RankOf and InverseOf. -/
namespace G294
theorem int_beq (a b : Nat) : ((a : Int) == (b : Int)) = decide (a = b) := by
  by_cases h : a = b
  · subst h; simp
  · rw [decide_eq_false h, beq_eq_false_iff_ne]; omega
end G294
namespace Go.Proofs.YtfglkgeeelapgaaDoor
open Go.RowKit G294

set_option maxRecDepth 100000 in
set_option maxHeartbeats 1000000 in
theorem squareMatrix_any (v : Value) (L : Mat) (w : World) (hs : SeenM w v L) : Calls Tryd.prog 130 #[.agg #[v]] w (RetBool w (squareM L)) := by
  have k1 : TurnIn 0 0 w (w.alloc (.cells #[v] 39)) := turn_alloc _ _
  have q1 : (w.alloc (.cells #[v] 39)).cell? ⟨w.heap.size, 0, none⟩ = some v := by simp
  have z1 : (w.alloc (.cells #[v] 39)).heap.size = w.heap.size + 1 := by simp
  have HS := Lib.hid (hs.touch k1)
  obtain ⟨A, cp, rfl, hlc, hcm⟩ := hs.len
  unfold maxLen at hcm
  have K1 := Lib.hid k1
  have Z1 := Lib.hid z1
  by_cases hg : goodM L = true
  · have HG := Lib.hid hg
    obtain ⟨g1, g2, g3, g4, _⟩ := (goodM_iff L).1 hg
    obtain ⟨bb, off, c9, A0, c0, hvv, _, hbb, hrow0, hl2, _⟩ := (show SeenM w (.slice A L.length cp) (mkM L.length (wid L) (ent L)) from (good_eq hg) ▸ hs).rowF 0 (by omega)
    simp only [Value.slice.injEq] at hvv
    obtain ⟨rfl, z9, rfl⟩ := hvv
    clear z9
    rw [Nat.add_zero] at hrow0
    have q2 := cell_turn k1 hrow0 hbb
    have hpos : 0 < L.length := g1
    have HSQ : Hid (squareM L = decide (L.length = wid L)) := by show squareM L = _; unfold squareM; rw [hg]; rfl
    unfold maxLen at hl2
    clear hg hs k1 hrow0 z1
    go_enter Tryd.func130, Tryd.ntmps130
    go_wp2_with fail
    generalize (w.alloc (.cells #[.slice (some ⟨bb, off, none⟩) L.length cp] 39)) = w1 at *
    go_region_held3 (fun w' => w'.cell? ⟨w.heap.size, 0, none⟩ = some (.slice (some ⟨bb, off, none⟩) L.length cp) ∧ w'.cell? ⟨bb, off, none⟩ = some (.slice A0 (wid L) c0))
      (first | exact ⟨q1, q2⟩ | exact ⟨y1, y2⟩)
      ((go_at_call 143; refine (igood_any _ L w1.drew HS.out).mono ?_; rintro e w2 ⟨rfl, ht⟩; rw [HG.out]; have z1 := Z1.out; have y1 := cell_turn ht (show w1.drew.cell? _ = _ from q1) (show _ < w1.heap.size by omega); have y2 := cell_turn ht (show w1.drew.cell? _ = _ from q2) (show _ < w1.heap.size by omega); clear z1))
    all_goals
      go_wp2_with fail
      go_ret
      exact ⟨by rw [HSQ.out, ← int_beq]; rfl, turn_of_below K1.out.to_below.drew ht⟩
  · have HG : Hid (goodM L = false) := by show goodM L = false; simpa using hg
    have HSQ : Hid (squareM L = false) := by show squareM L = false; unfold squareM; rw [HG.out]; rfl
    clear hg hs k1 z1
    go_enter Tryd.func130, Tryd.ntmps130
    go_wp2_with fail
    generalize (w.alloc (.cells #[.slice A L.length cp] 39)) = w1 at *
    have hz1 := Z1.out
    have hcc := grew_cell q1 (by omega)
    have HGG := Lib.hid (fun p : Grew w1 => HG.out ▸ grew_bool (igood_any _ L p.at_ (HS.out.below p.old)))
    clear q1 hz1
    refine wp_region_grew (by kernel_rfl) (by kernel_rfl) ?_
    repeat (first | go_big_quiet_skip | quiet_step ((go_at_call 143; exact HGG.out _)))
    refine wpQuiet_nil ?_
    rintro _ ⟨p, rfl⟩
    go_wp2_with fail
    go_ret
    exact ⟨by rw [HSQ.out]; rfl, turn_of_below K1.out.to_below (TurnIn.of_below p.old)⟩
end Go.Proofs.YtfglkgeeelapgaaDoor

/- The program's InverseOf and Product. -/
namespace G294
open Go Go.RowKit
theorem inv_sol {L : Mat} (h : squareM L = true) : invOk L = solB (ent L) L.length := by
  unfold invOk solB rankN
  simp only [squareM, Bool.and_eq_true, decide_eq_true_eq] at h
  rw [show squareM L = true by simp [squareM, h.1, h.2.symm], ← h.2]; rfl
theorem TurnIn.undrew' {w w1 w' : World} (h : TurnIn 0 0 w w1) (t : TurnIn 0 0 w1.drew w') : TurnIn 0 0 w w' := TurnIn.of_below (TurnIn.base (⟨t.os, t.tape, t.output, t.size, t.block⟩ : TurnIn 0 0 w1 w') h.to_below h.size (by omega))
end G294
namespace Go.Proofs.YtfglkgeeelapgaaDoor
open Go.RowKit G294

set_option maxRecDepth 100000 in
set_option maxHeartbeats 4000000 in
theorem inverseOf_own (v : Value) (L : Mat) (w : World) (hs : SeenM w v L) (htab : Tab w) (h0 : 2 < w.heap.size) : Calls Tryd.prog 116 #[.agg #[v]] w (RetMatOk 5 22 w (invR L) (invOk L)) := by
  have kB : TurnIn 0 0 w ((w.alloc (.cells #[v] 39)).alloc (.cells #[.slice none 0 0] 39)) := turn_trans (turn_alloc _ _) (turn_alloc _ _) (by omega)
  have zB : ((w.alloc (.cells #[v] 39)).alloc (.cells #[.slice none 0 0] 39)).heap.size = w.heap.size + 2 := by simp
  have q0 : ((w.alloc (.cells #[v] 39)).alloc (.cells #[.slice none 0 0] 39)).cell? ⟨w.heap.size, 0, none⟩ = some v := by simp
  have q1 : ((w.alloc (.cells #[v] 39)).alloc (.cells #[.slice none 0 0] 39)).cell? ⟨w.heap.size + 1, 0, none⟩ = some (.slice none 0 0) := by simp
  have q1f : ((w.alloc (.cells #[v] 39)).alloc (.cells #[.slice none 0 0] 39)).frozen? ⟨w.heap.size + 1, 0, none⟩ = false := by simp
  have HS := Lib.hid (hs.touch kB)
  have HTAB := Lib.hid htab
  obtain ⟨A, cp, rfl, hlc, hcm⟩ := hs.len
  unfold maxLen at hcm
  have KB := Lib.hid kB
  clear hs htab kB
  go_enter Tryd.func116, Tryd.ntmps116
  go_wp2_with fail
  generalize ((w.alloc (.cells #[.slice A L.length cp] 39)).alloc (.cells #[.slice none 0 0] 39)) = w2 at *
  refine (squareMatrix_any _ L _ HS.out).mono ?_
  rintro e w3 ⟨rfl, k3⟩
  have cB := cell_turn k3 q0 (by omega)
  have cR := cell_turn k3 q1 (by omega)
  have cRf := frozen_turn k3 q1f (by omega)
  have hsz : w.heap.size + 2 ≤ w3.heap.size := by have := k3.size; omega
  have HS3 := Lib.hid (HS.out.touch k3)
  have KK3 := Lib.hid (turn_trans KB.out k3 (by omega))
  have HFAIL : Hid (invOk L = false → invR L = []) := fun h => if_neg (by rw [h]; simp)
  clear k3 q0 q1 q1f zB
  by_cases hg : squareM L = true
  · have HIS := Lib.hid (inv_sol hg)
    have hgg : goodM L = true ∧ L.length = wid L := by simpa [squareM] using hg
    obtain ⟨g1, g2, g3, g4, _⟩ := (goodM_iff L).1 hgg.1
    have HLE : Hid (L = mkM L.length L.length (ent L)) := by
      show L = mkM L.length L.length (ent L)
      have e := good_eq hgg.1
      rw [← hgg.2] at e
      exact e
    have HS4 : Hid (SeenM w3 (.slice A L.length cp) (mkM L.length L.length (ent L))) := by
      show SeenM w3 (.slice A L.length cp) (mkM L.length L.length (ent L))
      have e := HS3.out
      generalize hn : L.length = n at *
      have hL := HLE.out
      rw [hL] at e
      exact e
    rw [hg]
    clear hg hgg
    have HINV : Hid (invOk L = true → invR L = mkM L.length L.length (bst (ent L) idF L.length L.length)) := fun h => if_pos h
    generalize L.length = n at *
    go_wp2_with fail
    go_region_held3 (fun w' => w'.cell? ⟨w.heap.size, 0, none⟩ = some (.slice A n cp))
      (first | exact cB)
      (first
        | (go_at_call 132; refine (fieldGrid_own n n (ent L) _ w3.drew HS4.out g1 (by omega) (by omega)).mono ?_; rintro e wF ⟨vF, vsF, rfl, oF, kF⟩; have kk := KK3.out.undrew' kF; replace cB := cell_turn kF (show w3.drew.cell? _ = _ from cB) (show _ < w3.heap.size by omega); replace cR := cell_turn kF (show w3.drew.cell? _ = _ from cR) (show _ < w3.heap.size by omega); replace cRf := frozen_turn kF (show w3.drew.frozen? _ = _ from cRf) (show _ < w3.heap.size by omega); replace hsz : w.heap.size + 2 ≤ wF.heap.size := Nat.le_trans hsz kF.size)
        | (go_at_call 133; refine (identityGridF n wF (by omega)).mono ?_; rintro e wI ⟨vI, vsI, rfl, oI, kI⟩; replace oF := oF.keep kI (by omega); replace kk := turn_trans kk kI (by omega); replace cB := cell_turn kI cB (by omega); replace cR := cell_turn kI cR (by omega); replace cRf := frozen_turn kI cRf (by omega); replace hsz : w.heap.size + 2 ≤ wI.heap.size := Nat.le_trans hsz kI.size)
        | (go_at_call 133; refine (identityGridF n w3.drew (by omega)).mono ?_; rintro e wI ⟨vI, vsI, rfl, oI, kI⟩; have kk := KK3.out.undrew' kI; have HSI := Lib.hid ((show SeenM w3.drew (.slice A n cp) (mkM n n (ent L)) from HS4.out).touch kI); replace cB := cell_turn kI (show w3.drew.cell? _ = _ from cB) (show _ < w3.heap.size by omega); replace cR := cell_turn kI (show w3.drew.cell? _ = _ from cR) (show _ < w3.heap.size by omega); replace cRf := frozen_turn kI (show w3.drew.frozen? _ = _ from cRf) (show _ < w3.heap.size by omega); replace hsz : w.heap.size + 2 ≤ wI.heap.size := Nat.le_trans hsz kI.size)
        | (go_at_call 132; refine (fieldGrid_own n n (ent L) _ wI HSI.out g1 (by omega) (by omega)).mono ?_; rintro e wF ⟨vF, vsF, rfl, oF, kF⟩; replace oI := oI.keep kF (by omega); replace kk := turn_trans kk kF (by omega); replace cB := cell_turn kF cB (by omega); replace cR := cell_turn kF cR (by omega); replace cRf := frozen_turn kF cRf (by omega); replace hsz : w.heap.size + 2 ≤ wF.heap.size := Nat.le_trans hsz kF.size)
        | (go_at_call 131; refine (solved_own n n (ent L) idF _ _ _ oF.seen oI.seen g1 (by omega) (by omega) (HTAB.out.below kk.to_below h0) (by have := kk.size; omega)).mono ?_; rintro e w5 ⟨v5, vs5, rfl, o5, k5⟩; replace kk := turn_trans kk k5 (by omega); replace cB := cell_turn k5 cB (by omega); replace cR := cell_turn k5 cR (by omega); replace cRf := frozen_turn k5 cRf (by omega); replace hsz : w.heap.size + 2 ≤ w5.heap.size := Nat.le_trans hsz k5.size))
    all_goals
      have KK := Lib.hid kk
      have HO5 := Lib.hid o5
      clear kk o5 oF oI k5 kF kI
      by_cases hok : solB (ent L) n = true
      · have HOK := Lib.hid hok
        have HIV : Hid (invOk L = true) := by show invOk L = true; rw [HIS.out]; exact hok
        have e5 : solL (ent L) idF n n = mkM n n (bst (ent L) idF n n) := if_pos hok
        have HS5 : Hid (SeenM w5 v5 (mkM n n (bst (ent L) idF n n))) := by
          show SeenM w5 v5 _
          rw [← e5]; exact HO5.out.seen
        rw [show solOk (ent L) n = true from hok]
        clear hok e5
        go_wp2_with fail
        refine (matrixOf_own n n (bst (ent L) idF n n) _ _ HS5.out g1 (by omega) (by omega)).mono ?_
        rintro e w6 ⟨v6, vs6, rfl, hM6, ht6⟩
        obtain ⟨A', n', c', rfl⟩ := hM6.isSlice
        have hq := cell_turn ht6 cR (by omega)
        have hqf := frozen_turn ht6 cRf (by omega)
        have HF := Lib.hid (ret_store KK.out.to_below hM6 ht6 (w.heap.size + 1) 0 (by omega) (by omega) (.slice A' n' c'))
        clear hM6 ht6
        go_wp2_with fail
        refine bodyPost_ret (v := .tuple #[.agg #[.slice A' n' c'], .bool true]) (by simp [results, Tryd.results116, go_sem, hq]) rfl ?_
        exact ⟨.slice A' n' c', vs6, by rw [HIV.out], by rw [HINV.out HIV.out]; exact HF.out.1, HF.out.2⟩
      · have hok' : solB (ent L) n = false := by simpa using hok
        have HIV : Hid (invOk L = false) := by show invOk L = false; rw [HIS.out]; exact hok'
        rw [show solOk (ent L) n = false from hok']
        clear hok hok'
        go_wp2_with fail
        refine bodyPost_ret (v := .tuple #[.agg #[.slice none 0 0], .bool false]) (by simp [results, Tryd.results116, go_sem, cR]) rfl ?_
        exact ⟨_, [], by rw [HIV.out], by rw [HFAIL.out HIV.out]; exact OwnM.nil _ _ _ _, TurnIn.of_below (KK.out.to_below.setCell (Nat.le_succ _) _)⟩
  · have hg' : squareM L = false := by simpa using hg
    have HIV : Hid (invOk L = false) := by show invOk L = false; unfold invOk; rw [hg']; rfl
    rw [hg']
    clear hg hg'
    go_wp2_with fail
    refine bodyPost_ret (v := .tuple #[.agg #[.slice none 0 0], .bool false]) (by simp [results, Tryd.results116, go_sem, cR]) rfl ?_
    exact ⟨_, [], by rw [HIV.out], by rw [HFAIL.out HIV.out]; exact OwnM.nil _ _ _ _, TurnIn.of_below (KK3.out.to_below.setCell (Nat.le_succ _) _)⟩
end Go.Proofs.YtfglkgeeelapgaaDoor
