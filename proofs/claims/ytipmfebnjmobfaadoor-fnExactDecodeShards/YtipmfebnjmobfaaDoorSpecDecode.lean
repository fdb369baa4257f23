/- Decoding shards: the model's. -/
import Derived.Test.YtipmfebnjmobfaaDoorSpecShards
import Derived.Test.YtipmfebnjmobfaaDoorSpecInv
import Derived.Test.YtipmfebnjmobfaaDoorSpecPart
import Derived.Test.YtipmfebnjmobfaaDoorSpecEncode
import Derived.Test.YtipmfebnjmobfaaDoorShardArgs
set_option linter.unusedSimpArgs false
set_option linter.unusedVariables false
namespace G294
open Go Go.RowKit
/-- the rows of the code that the first shards name -/
def usedG (k : Nat) (l : List Sh) : Ents := fun i j => codF k (l.getD i (0, [])).1.toNat j
def usedF (k : Nat) (l : List Sh) : Ents := ent (mkM k k (usedG k l))
theorem used_mk (k : Nat) (l : List Sh) : mkM k k (usedF k l) = mkM k k (usedG k l) := mkM_congr fun i j hi hj => ent_mkM _ _ _ _ _ hi hj
def nosK (k : Nat) (l : List Sh) : List Int := (l.take k).map (·.1)
def txtK (k : Nat) (l : List Sh) : List (List UInt8) := (l.take k).map (·.2)
def decX (k n : Nat) (l : List Sh) : List (List UInt8) := rowsT k k n (bst (usedF k l) idF k k) (txtK k l)
def usedOk (k : Nat) (l : List Sh) : Bool := decide ((est (usedF k l) k k).2 = k)
def decY (k n : Nat) (l : List Sh) : List (List UInt8) := if usedOk k l = true then decX k n l else []
theorem decY_yes {k n : Nat} {l : List Sh} (h : usedOk k l = true) : decY k n l = decX k n l := if_pos h
theorem decY_no {k n : Nat} {l : List Sh} (h : usedOk k l = false) : decY k n l = [] := if_neg (by rw [h]; simp)
theorem nosK_succ {l : List Sh} {k : Nat} {s : Sh} (h : l[k]? = some s) : nosK (k + 1) l = nosK k l ++ [s.1] := by simp [nosK, List.take_add_one, h]
theorem txtK_succ {l : List Sh} {k : Nat} {s : Sh} (h : l[k]? = some s) : txtK (k + 1) l = txtK k l ++ [s.2] := by simp [txtK, List.take_add_one, h]
theorem nosK_length {l : List Sh} {k : Nat} (h : k ≤ l.length) : (nosK k l).length = k := by simp [nosK]; omega
theorem txtK_length {l : List Sh} {k : Nat} (h : k ≤ l.length) : (txtK k l).length = k := by simp [txtK]; omega
theorem nosK_get {l : List Sh} {k i : Nat} (h : k ≤ l.length) (hi : i < k) : (nosK k l).getD i 0 = (l.getD i (0, [])).1 := by
  have : i < l.length := by omega
  simp [nosK, List.getD, List.getElem?_map, List.getElem?_take, hi, this]
theorem txtK_get {l : List Sh} {k i : Nat} (h : k ≤ l.length) (hi : i < k) : (txtK k l).getD i [] = (l.getD i (0, [])).2 := by
  have : i < l.length := by omega
  simp [txtK, List.getD, List.getElem?_map, List.getElem?_take, hi, this]
theorem range_get {k j : Nat} (h : j < k) : ((List.range k).map fun i : Nat => (i : Int)).getD j 0 = (j : Int) := by simp [List.getD, h]
theorem used_eq {l : List Sh} {k : Nat} (h : k ≤ l.length) : mkM (nosK k l).length ((List.range k).map fun i : Nat => (i : Int)).length (fun i j => codF k ((nosK k l).getD i 0).toNat (((List.range k).map fun i : Nat => (i : Int)).getD j 0).toNat) = mkM k k (usedF k l) := by
  rw [nosK_length h]
  simp only [List.length_map, List.length_range]
  rw [used_mk]
  unfold mkM mkRow
  refine List.map_congr_left fun i hi => List.map_congr_left fun j hj => ?_
  rw [List.mem_range] at hi hj
  show codF k ((nosK k l).getD i 0).toNat (((List.range k).map fun i : Nat => (i : Int)).getD j 0).toNat = usedG k l i j
  rw [nosK_get h hi, range_get hj]
  simp [usedG]
end G294
namespace Go.Proofs.YtipmfebnjmobfaaDoor
open Go.RowKit G294

set_option maxRecDepth 100000 in
set_option maxHeartbeats 4000000 in
theorem l3Decode_own (k q n : Nat) (l : List Sh) (v : Value) (w : World) (hv : SeenH w v l) (hk : 1 ≤ k ∧ k ≤ 8) (hq : 1 ≤ q ∧ q ≤ 6) (hkl : k ≤ l.length)
    (hno : ∀ (i : Nat) (s : Sh), l[i]? = some s → 0 ≤ s.1 ∧ s.1 < ((k + q : Nat) : Int)) (htx : ∀ (i : Nat) (s : Sh), l[i]? = some s → s.2.length = n) (hn : n ≤ 40) :
    Calls Tryd.prog 62 #[v, .int .i64 k, .int .i64 q] w (RetStrsOk 9 w (decY k n l) (usedOk k l)) := by
  have HNO : Hid (∀ i, i < (nosK k l).length → 0 ≤ (nosK k l).getD i 0 ∧ (nosK k l).getD i 0 < ((k + q : Nat) : Int)) := fun i hi => by
    rw [nosK_length hkl] at hi
    rw [nosK_get hkl hi]
    exact hno i _ (by simp [List.getD, show i < l.length by omega])
  have HAL : Hid (∀ i, i < ((List.range k).map fun i : Nat => (i : Int)).length → 0 ≤ ((List.range k).map fun i : Nat => (i : Int)).getD i 0 ∧ ((List.range k).map fun i : Nat => (i : Int)).getD i 0 < (k : Int)) := fun i hi => by
    have hi2 : i < k := by simpa using hi
    rw [range_get hi2]; omega
  have HTX : Hid (∀ j, j < k → ((txtK k l).getD j []).length = n) := fun j hj => by
    rw [txtK_get hkl hj]
    exact htx j _ (by simp [List.getD, show j < l.length by omega])
  have HU := Lib.hid (used_eq hkl)
  have HLN := Lib.hid (nosK_length hkl)
  have HLT := Lib.hid (txtK_length hkl)
  obtain ⟨A, c, rfl, hlc, hcm, hx⟩ := hv
  obtain ⟨b, off, rfl, hbl, hcell⟩ := hx (by omega)
  have HC := Lib.hid hcell
  clear hx hcell hno htx
  unfold maxLen at hcm
  generalize hL : l.length = L at *
  have HL := Lib.hid hL
  clear hL
  go_enter Tryd.func62, Tryd.ntmps62
  go_wp2_with fail
  go_loopw [8, 9, 18] (fun o1 o2 i wr => ∃ j : Nat, j ≤ k ∧ i = .int .i64 j ∧ wr.ownsRow w.heap.size 3 1 o1 j (ints (nosK j l)) ∧ wr.ownsRow w.heap.size 9 1 o2 j (strs (txtK j l)) ∧ (∀ g, o1.ownBlock = some g → o2.ownBlock ≠ some g) ∧ Below w.heap.size w wr)
    (fun _ _ i _ => k - (intOf i).toNat)
  case atStart => exact ⟨0, Nat.zero_le _, rfl, World.ownsRow_nil _ _ _ _, World.ownsRow_nil _ _ _ _, (fun g h => by simp [Value.ownBlock] at h), Below.refl _ _⟩
  case round =>
    obtain ⟨j, hj, rfl, hown1, hown2, hap, hb⟩ := hrel
    have hbs := hb.size
    by_cases hlt : j < k
    · obtain ⟨⟨no, s⟩, hks⟩ := at_lt HL.out (show j < L by omega)
      have hc1 := (hb.cell (p := ⟨b, off + j * 2, none⟩) hbl).trans (HC.out j _ hks).1
      have hc2 := (hb.cell (p := ⟨b, off + j * 2 + 1, none⟩) hbl).trans (HC.out j _ hks).2
      simp only at hc1 hc2
      have hji : (j : Int) < (k : Int) := by omega
      have hjL : j < k := hlt
      have HN1 := Lib.hid (nosK_succ hks)
      have HT1 := Lib.hid (txtK_succ hks)
      clear hks
      have hlt1 := fun g e => (hown1.lt g e).2
      have hlt2 := fun g e => (hown2.lt g e).2
      go_wp2_with (at_builtin; refine wpList_append1 rfl _ _ _ rfl w.heap.size 3 _ _ Tryd.underlying56 infoInt rfl _ j _ rfl ((hown1.alloc _).alloc _) (wr.heap.size + 1) (.int .i64 no) rfl ?c1 rfl ?c2 ?c3 ?c4 ?_)
      case c2 => omega
      case c4 => first | omega | (simp; omega)
      intro v1 w1 hown1' hg1 hor1
      have hsz1 := hg1.size
      have hbox : w1.cell? ⟨wr.heap.size, 1, none⟩ = some (.string (str s)) := hg1.cell (by simp) (fun e => Nat.lt_irrefl _ (hlt1 wr.heap.size e.symm))
      have hown2' := own_other ((hown2.alloc (.cells #[.int .i64 no, .string (str s)] 35)).alloc (.cells #[.int .i64 no] 3)) hg1 (fun g e e2 => hap g e2 e)
      have hb1 : Below w.heap.size w w1 := below_append ((hb.alloc hbs _).alloc (by simp; omega) _) ((hown1.alloc _).alloc _) hg1 (Nat.le_refl _) (by simp; omega)
      simp only [World.size_alloc] at hsz1 hor1
      clear hown1 hg1 hc1 hc2
      go_wp2_with (at_builtin; refine wpList_append1 rfl _ _ _ rfl w.heap.size 9 _ _ Tryd.underlying24 infoStr rfl _ j _ rfl (hown2'.alloc _) w1.heap.size (.string (str s)) rfl ?d1 rfl ?d2 ?d3 ?d4 ?_)
      case d1 => simp
      case d2 => omega
      case d3 => omega
      case d4 => first | omega | (simp; omega)
      intro v2 w2 hown2'' hg2 hor2
      have hapa : ∀ g, v1.ownBlock = some g → u9.ownBlock ≠ some g := fun g e e2 => by
        rcases hor1 with h | h
        · exact hap g (h ▸ e) e2
        · rw [h] at e; cases e; have := hlt2 _ e2; omega
      have hown1'' := own_other (hown1'.alloc (.cells #[.string (str s)] 9)) hg2 (fun g e e2 => hapa g e e2)
      have hap' : ∀ g, v1.ownBlock = some g → v2.ownBlock ≠ some g := fun g e e2 => by
        rcases hor2 with h | h
        · exact hapa g e (h ▸ e2)
        · rw [h] at e2; have := (hown1'.lt _ e).2; simp at e2; omega
      have hb2 : Below w.heap.size w w2 := below_append (hb1.alloc (by omega) _) (hown2'.alloc _) hg2 (Nat.le_refl _) (by simp; omega)
      have hn1 : w2.ownsRow w.heap.size 3 1 v1 (j + 1) (ints (nosK (j + 1) l)) := by rw [HN1.out, ints_append]; exact hown1''
      have hn2 : w2.ownsRow w.heap.size 9 1 v2 (j + 1) (strs (txtK (j + 1) l)) := by rw [HT1.out, strs_append]; exact hown2''
      clear hown1'' hown2'' hown1' hown2' hg2 hor1 hor2 hapa hbox
      go_wp2_with fail
      go_roundw
      case rel => exact ⟨j + 1, by omega, by go_num, hn1, hn2, hap', hb2⟩
      case measure => simp [intOf]; omega
    · obtain rfl : j = k := by omega
      have hji : ¬ (j : Int) < (j : Int) := by omega
      have HS1 := Lib.hid (Seen.of_own hown1)
      have HS2 := Lib.hid (Seen.of_own hown2)
      clear hown1 hown2 hap
      go_wp2_with fail
      refine (l3Matrix_own j q _ (by omega) (by omega) (by omega) (by omega)).mono ?_
      rintro e w1 ⟨v1, vs1, rfl, hM1, k1⟩
      have hs1 := k1.size
      have HM1 := Lib.hid hM1
      clear hM1
      go_wp2_with fail
      refine (l3All_own j _ (by omega)).mono ?_
      rintro e w2 ⟨v2, rfl, hO2, k2⟩
      have hs2 := k2.size
      have HO2 := Lib.hid hO2
      clear hO2
      go_wp2_with fail
      refine (l2Part_own (j + q) j (codF j) (nosK j l) ((List.range j).map fun i : Nat => (i : Int)) _ _ _ _ (HM1.out.seen.touch k2) ((HS1.out.below k1.to_below).below k2.to_below) HO2.out.seen HNO.out HAL.out (by rw [HLN.out]; omega) (by simp; omega)).mono ?_
      rw [HU.out]
      rintro e w3 ⟨v3, vs3, rfl, hM3, k3⟩
      have hs3 := k3.size
      have HM3 := Lib.hid hM3
      clear hM3
      go_wp2_with fail
      refine (l2Inverse_own j (usedF j l) _ _ HM3.out.seen (by omega) (by omega)).mono ?_
      rintro e w4 ⟨v4, vs4, rfl, hM4, k4⟩
      have hs4 := k4.size
      obtain ⟨A4, c4, rfl, hlc4, hcm4⟩ := hM4.seen.len
      rw [mkM_length] at *
      unfold maxLen at hcm4
      have HM4 := Lib.hid hM4
      clear hM4
      have HB4 : Hid (Below w.heap.size w w4) := k4.base (k3.base (k2.base (k1.base hb (by omega) (by omega)) (by omega) (by omega)) (by omega) (by omega)) (by omega) (by omega)
      have HS4 : Hid (Seen w4 _ (strs (txtK j l))) := (((HS2.out.below k1.to_below).below k2.to_below).below k3.to_below).below k4.to_below
      have kA : TurnIn 0 0 w4 (w4.alloc (.cells #[.slice A4 j c4] 60)) := turn_alloc _ _
      by_cases hok : usedOk j l = true
      · have HY := Lib.hid (decY_yes (n := n) hok)
        have hok2 : decide ((est (usedF j l) j j).2 = j) = true := hok
        have HK := Lib.hid hok
        rw [hok2]
        clear hok hok2
        go_wp2_with fail
        refine (l3Rows_own j j n (bst (usedF j l) idF j j) (txtK j l) _ _ _ (HM4.out.seen.touch kA) (HS4.out.below kA.to_below) HLT.out (by omega) (by omega) (by omega) HTX.out (by omega)).mono ?_
        rintro e w5 ⟨v5, rfl, hO5, k5⟩
        go_wp2_with fail
        go_ret2
        refine ⟨_, by rw [HK.out]; rfl, ?_, ?_⟩
        · rw [HY.out, decX]
          exact ⟨own_base hO5.1 (by have := HB4.out.size; simp; omega), hO5.2⟩
        · exact TurnIn.of_below (k5.base (kA.base HB4.out (by have := HB4.out.size; omega) (by omega)) (by have := HB4.out.size; simp; omega) (by omega))
      · have hok1 : usedOk j l = false := by simpa using hok
        have hok2 : decide ((est (usedF j l) j j).2 = j) = false := hok1
        have HY := Lib.hid (decY_no (n := n) hok1)
        have HK := Lib.hid hok1
        rw [hok2]
        clear hok hok1 hok2
        go_wp2_with fail
        go_ret2
        refine ⟨.slice none 0 0, by rw [HK.out]; rfl, by rw [HY.out]; exact OwnStrs.nil _ _ _, TurnIn.of_below (kA.base HB4.out (by have := HB4.out.size; omega) (by omega))⟩

end Go.Proofs.YtipmfebnjmobfaaDoor
