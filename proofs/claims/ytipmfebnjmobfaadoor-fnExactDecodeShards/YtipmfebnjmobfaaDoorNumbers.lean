/- numbersOf and rowsAt, the program's. -/
import Derived.Test.YtipmfebnjmobfaaDoorShardArgs
import Derived.Test.YtipmfebnjmobfaaDoorIntsWalks
import Derived.Test.YtipmfebnjmobfaaDoorCodeM
set_option linter.unusedSimpArgs false
set_option linter.unusedVariables false
namespace G294
open Go Go.RowKit
/-- the rows that numbers name -/
def pickM (L : Mat) (nos : List Int) : Mat := nos.map fun n => L.getD n.toNat []
/-- those rows as values -/
def pickV (vs : List Value) (nos : List Int) : List Value := nos.map fun n => vs.getD n.toNat undef
@[simp] theorem pickM_length (L : Mat) (nos : List Int) : (pickM L nos).length = nos.length := by simp [pickM]
@[simp] theorem pickV_length (vs : List Value) (nos : List Int) : (pickV vs nos).length = nos.length := by simp [pickV]
theorem pickM_mk {r c : Nat} {F : Ents} {nos : List Int} (h : ∀ i, i < nos.length → 0 ≤ nos.getD i 0 ∧ nos.getD i 0 < (r : Int)) : pickM (mkM r c F) nos = mkM nos.length c (fun i j => F (nos.getD i 0).toNat j) := by
  apply List.ext_getElem
  · simp
  · intro i h1 h2
    have hi : i < nos.length := by simpa using h1
    have hh := h i hi
    have e : nos.getD i 0 = nos[i] := by simp [List.getD, hi]
    rw [e] at hh
    have e2 : (mkM r c F).getD nos[i].toNat [] = mkRow c (F nos[i].toNat) := mkM_getD _ _ _ _ (by omega)
    simp only [pickM, List.getElem_map, e2]
    have e3 : nos[i]?.getD 0 = nos[i] := by simpa [List.getD] using e
    simp [mkM, e3]
theorem pick_seen {w w' : World} {u : Value} {L : Mat} {vs : List Value} {nos : List Int} (hl : vs.length = L.length) (hs : ∀ (i : Nat) (u : Value), vs[i]? = some u → Seen w u (bys (L.getD i [])))
    (hno : ∀ i, i < nos.length → 0 ≤ nos.getD i 0 ∧ nos.getD i 0 < (L.length : Int)) (hb : Below w.heap.size w w') (hu : Seen w' u (pickV vs nos)) : SeenM w' u (pickM L nos) := by
  refine ⟨pickV vs nos, by simp, hu, fun i x hx => ?_⟩
  have hi : i < nos.length := by have := (List.getElem?_eq_some_iff.1 hx).1; simpa using this
  have hh := hno i hi
  have e : nos.getD i 0 = nos[i] := by simp [List.getD, hi]
  rw [e] at hh
  have hlt : nos[i].toNat < vs.length := by omega
  have ex : x = vs[nos[i].toNat] := by
    have : (pickV vs nos)[i]? = some (vs.getD nos[i].toNat undef) := by simp [pickV, hi]
    rw [this] at hx
    have := Option.some.inj hx
    rw [← this]; simp [List.getD, hlt]
  have em : (pickM L nos).getD i [] = L.getD nos[i].toNat [] := by simp [pickM, List.getD, hi]
  rw [em, ex]
  exact (hs _ _ (List.getElem?_eq_getElem hlt)).below hb
/-- rows are seen, handed back -/
def RetSeenM (w : World) (L : Mat) (e : Ending) (w' : World) : Prop := ∃ A n c, e = .returned (.agg #[.slice A n c]) ∧ SeenM w' (.slice A n c) L ∧ TurnIn 0 0 w w'
end G294
namespace Go.Proofs.YtipmfebnjmobfaaDoor
open Go.RowKit G294

set_option maxRecDepth 100000 in
set_option maxHeartbeats 1000000 in
theorem numbersOf_own (v : Value) (l : List Sh) (w : World) (hv : SeenH w v l) (hn : l.length ≤ 1048576) : Calls Tryd.prog 117 #[v] w (RetInts 3 w (l.map (·.1))) := by
  obtain ⟨i0, hi0, hz0, hz1, hz2⟩ := info_parts infoInt
  obtain ⟨A, c, rfl, hlc, hcm, hx⟩ := hv
  unfold maxLen at hcm
  have hlm : (l.map (·.1)).length = l.length := by simp
  generalize hT : l.map (·.1) = T at *
  have HTT := Lib.hid hT
  clear hT
  generalize hnn : l.length = n at *
  have HN := Lib.hid hnn
  have HLM := Lib.hid hlm
  clear hnn hlm
  go_enter Tryd.func117, Tryd.ntmps117
  go_wp2_with (at_make; refine wpList_make_full _ rfl _ _ _ rfl w.heap.size _ i0 _ 1 Tryd.underlying56 hi0 hz0 hz1 _ _ _ _ n rfl rfl rfl rfl ?b2 ?b3 ?b4 ?_)
  case b2 => rw [hz2]; omega
  case b3 => unfold maxLen; omega
  case b4 => exact Nat.le_refl _
  intro w1 hown1 hg1
  have hb1 : Below w.heap.size w w1 := below_of_grown hg1 (Nat.le_refl _) (by simp)
  rw [toList_madeCells_one] at hown1
  have hs1 := (hown1.lt w.heap.size rfl).2
  clear hg1
  go_wp2_with fail
  go_loopw [11] (fun i wr => ∃ k : Nat, k ≤ n ∧ i = .int .i64 k ∧ wr.ownsRow w.heap.size 3 1 (.slice (some ⟨w.heap.size, 0, none⟩) n n) n ((ints T).take k ++ List.replicate (n - k) (.int .i64 0)) ∧ Below w.heap.size w wr)
    (fun i _ => n - (intOf i).toNat)
  case atStart => exact ⟨0, Nat.zero_le _, rfl, by simpa using hown1, hb1⟩
  case round =>
    obtain ⟨k, hk, rfl, hown, hb⟩ := hrel
    clear hown1 hb1
    by_cases hlt : k < n
    · obtain ⟨b, off, rfl, hbl, hcell⟩ := hx (by omega)
      obtain ⟨⟨no, s⟩, hks⟩ := at_lt HN.out hlt
      have hc1 := (hb.cell (p := ⟨b, off + k * 2, none⟩) hbl).trans (hcell k _ hks).1
      have hc2 := (hb.cell (p := ⟨b, off + k * 2 + 1, none⟩) hbl).trans (hcell k _ hks).2
      simp only at hc1 hc2
      have hki : (k : Int) < (n : Int) := by omega
      have hTk : (ints T)[k]? = some (.int .i64 no) := by
        rw [← HTT.out]; simp [ints, hks]
      have HTK := Lib.hid hTk
      have hwr := (hown.lt w.heap.size rfl).2
      have hown2 := hown.alloc (.cells #[.int .i64 no, .string (str s)] 35)
      have hco : (wr.alloc (.cells #[.int .i64 no, .string (str s)] 35)).cell? ⟨w.heap.size, k, none⟩ = some (.int .i64 0) := by
        have ht : ((ints T).take k).length = k := by simp [HLM.out]; omega
        rw [hown2.cellAt k (by omega), List.getElem?_append_right (by omega), ht, Nat.sub_self, List.getElem?_replicate, if_pos (by omega)]
      have hfr := hown2.frozenAt k
      have hst := hown.stored k (.int .i64 no)
      rw [take_set_next (ints T) _ k _ hTk (by simp [HLM.out]; omega)] at hst
      have hst1 := hst.1.alloc (.cells #[.int .i64 no, .string (str s)] 35)
      have hb2 := (hb.setCell (p := ⟨w.heap.size, k, none⟩) (Nat.le_refl _) (.int .i64 no)).alloc (by have := hb.size; simp; omega) (.cells #[.int .i64 no, .string (str s)] 35)
      clear hcell hx hown2 hTk
      go_wp2_with fail
      go_roundw
      case rel => exact ⟨k + 1, by omega, by go_num, by simpa [Nat.sub_sub] using hst1, hb2⟩
      case measure => simp [intOf]; omega
    · obtain rfl : k = n := by omega
      have hki : ¬ (k : Int) < (k : Int) := by omega
      go_wp2_with fail
      go_ret
      refine ⟨_, rfl, OwnInts.of_made ?_, TurnIn.of_below hb⟩
      rw [List.take_of_length_le (by simp [HLM.out]), Nat.sub_self] at hown
      rw [HLM.out]
      simpa using hown

set_option maxRecDepth 100000 in
set_option maxHeartbeats 2000000 in
theorem rowsAt_seen (v : Value) (L : Mat) (u : Value) (nos : List Int) (w : World) (hm : SeenM w v L) (hu : Seen w u (ints nos)) (hn : nos.length ≤ 1048576) (hno : ∀ i, i < nos.length → 0 ≤ nos.getD i 0 ∧ nos.getD i 0 < (L.length : Int)) :
    Calls Tryd.prog 113 #[.agg #[v], u] w (RetSeenM w (pickM L nos)) := by
  obtain ⟨i0, hi0, hz0, hz1, hz2⟩ := info_parts infoRowB
  obtain ⟨vs, hvl, hsv, hrows⟩ := hm
  have HSL : Hid (∀ (x : Value) (m : Nat), vs[m]? = some x → ∃ A' n' c', x = .slice A' n' c') := fun x m hx => by
    obtain ⟨A', c', e, _⟩ := hrows m x hx
    exact ⟨A', _, c', e⟩
  have HPS : Hid (∀ (w' : World) (x : Value), Below w.heap.size w w' → Seen w' x (pickV vs nos) → SeenM w' x (pickM L nos)) := fun w' x hb hx => pick_seen hvl hrows hno hb hx
  obtain ⟨A, cA, rfl, hlA, hcA, hxA⟩ := hsv
  obtain ⟨B, cB, rfl, hlB, hcB, hxB⟩ := hu
  have hlp := pickV_length vs nos
  rw [ints_length] at hlB hxB
  simp only [ints_length]
  unfold maxLen at hcA hcB
  rw [hvl] at hlA hxA ⊢
  generalize hLL : L.length = r at *
  generalize hnn : nos.length = n at *
  have HN := Lib.hid hnn
  have HVL := Lib.hid hvl
  have HNO := Lib.hid hno
  have HXA := Lib.hid hxA
  have HXB := Lib.hid hxB
  have HLP := Lib.hid hlp
  clear hnn hLL hvl hno hrows hxA hxB hlp
  have kB : TurnIn 0 0 w ((w.alloc (.cells #[.slice A r cA] 60)).alloc (.cells #[.slice none 0 0] 60)) := turn_trans (turn_alloc _ _) (turn_alloc _ _) (by omega)
  have zB : ((w.alloc (.cells #[.slice A r cA] 60)).alloc (.cells #[.slice none 0 0] 60)).heap.size = w.heap.size + 2 := by simp
  have q0 : ((w.alloc (.cells #[.slice A r cA] 60)).alloc (.cells #[.slice none 0 0] 60)).cell? ⟨w.heap.size, 0, none⟩ = some (.slice A r cA) := by simp
  have q1 : ((w.alloc (.cells #[.slice A r cA] 60)).alloc (.cells #[.slice none 0 0] 60)).cell? ⟨w.heap.size + 1, 0, none⟩ = some (.slice none 0 0) := by simp
  have q1f : ((w.alloc (.cells #[.slice A r cA] 60)).alloc (.cells #[.slice none 0 0] 60)).frozen? ⟨w.heap.size + 1, 0, none⟩ = false := by simp
  go_enter Tryd.func113, Tryd.ntmps113
  go_wp2_with (at_make; refine wpList_make_full _ rfl _ _ _ rfl (w.heap.size + 2) _ i0 _ 1 Tryd.underlying58 hi0 hz0 hz1 _ _ _ _ n rfl rfl rfl rfl ?b2 ?b3 ?b4 ?_)
  case b2 => rw [hz2]; omega
  case b3 => unfold maxLen; omega
  case b4 => rw [zB]; exact Nat.le_refl _
  intro w1 hown1 hg1
  generalize ((w.alloc (.cells #[.slice A r cA] 60)).alloc (.cells #[.slice none 0 0] 60)) = w2 at *
  have hb1 : Below w2.heap.size w2 w1 := below_of_grown hg1 (Nat.le_refl _) (by simp)
  rw [toList_madeCells_one] at hown1
  have hs1 := (hown1.lt (w.heap.size + 2) rfl).2
  have KB := Lib.hid kB
  have hzB : w.heap.size + 2 = w2.heap.size := zB.symm
  have HZB := Lib.hid hzB
  have hzle : w.heap.size + 2 ≤ w2.heap.size := by omega
  have hzge : w2.heap.size ≤ w.heap.size + 2 := by omega
  clear hg1 kB zB hzB
  go_wp2_with fail
  go_loopw [13] (fun i wr => ∃ k : Nat, k ≤ n ∧ i = .int .i64 k ∧ wr.ownsRow (w.heap.size + 2) 42 1 (.slice (some ⟨w.heap.size + 2, 0, none⟩) n n) n ((pickV vs nos).take k ++ List.replicate (n - k) (.slice none 0 0)) ∧ Below w2.heap.size w2 wr)
    (fun i _ => n - (intOf i).toNat)
  case atStart => exact ⟨0, Nat.zero_le _, rfl, by simpa using hown1, hb1⟩
  case round =>
    obtain ⟨k, hk, rfl, hown, hb⟩ := hrel
    have hbz := hb.size
    have HBW : Hid (Below w.heap.size w wr) := KB.out.to_below.trans (hb.mono (by omega))
    clear hown1 hb1
    by_cases hlt : k < n
    · have hki : (k : Int) < (n : Int) := by omega
      have hkl : k < nos.length := by rw [HN.out]; exact hlt
      obtain ⟨b, off, rfl, hbl, hcell⟩ := HXB.out (by omega)
      have hcx := (HBW.out.cell (p := ⟨b, off + k, none⟩) hbl).trans (hcell k _ (ints_get nos k hkl))
      have hh := HNO.out k hlt
      have eN : nos.getD k 0 = nos[k] := by simp [List.getD, hkl]
      rw [eN] at hh
      obtain ⟨m, hm⟩ := Int.eq_ofNat_of_zero_le hh.1
      rw [hm] at hcx hh
      have hmr : m < r := by omega
      obtain ⟨b', off', rfl, hbl', hcell'⟩ := HXA.out (by omega)
      have hvm : vs[m]? = some (vs[m]'(by rw [HVL.out]; exact hmr)) := List.getElem?_eq_getElem _
      obtain ⟨x, hx⟩ : ∃ x, x = vs[m]'(by rw [HVL.out]; exact hmr) := ⟨_, rfl⟩
      rw [← hx] at hvm
      have hcy := (HBW.out.cell (p := ⟨b', off' + m, none⟩) hbl').trans (hcell' m _ hvm)
      have hTk : (pickV vs nos)[k]? = some x := by
        have : (pickV vs nos)[k]? = some (vs.getD nos[k].toNat undef) := by simp [pickV, hkl]
        rw [this, hm]
        simp [List.getD, hvm]
      have HX1 : Hid (∃ A' n' c', x = .slice A' n' c') := HSL.out x m hvm
      obtain ⟨A', n', c', rfl⟩ := HX1.out
      have c0 := (hb.cell (p := ⟨w.heap.size, 0, none⟩) (show w.heap.size < w2.heap.size by omega)).trans q0
      have hwr := (hown.lt (w.heap.size + 2) rfl).2
      have hco : wr.cell? ⟨w.heap.size + 2, k, none⟩ = some (.slice none 0 0) := by
        have ht : ((pickV vs nos).take k).length = k := by simp [HN.out]; omega
        rw [hown.cellAt k (by omega), List.getElem?_append_right (by omega), ht, Nat.sub_self, List.getElem?_replicate, if_pos (by omega)]
      have hfr := hown.frozenAt k
      have hst := hown.stored k (.slice A' n' c')
      rw [take_set_next (pickV vs nos) _ k _ hTk (by simp [HN.out]; omega)] at hst
      have hst1 := hst.1
      have hb2 := hb.setCell (p := ⟨w.heap.size + 2, k, none⟩) (by show w2.heap.size ≤ w.heap.size + 2; omega) (.slice A' n' c')
      have hm0 : (0 : Int) ≤ (m : Int) := by omega
      have hmi : (m : Int) < (r : Int) := by omega
      clear hcell hcell' hst hTk hx hvm hm eN
      go_wp2_with fail
      go_roundw
      case rel => exact ⟨k + 1, by omega, by go_num, by simpa [Nat.sub_sub] using hst1, hb2⟩
      case measure => simp [intOf]; omega
    · obtain rfl : k = n := by omega
      have hki : ¬ (k : Int) < (k : Int) := by omega
      have r1 := (hb.cell (p := ⟨w.heap.size + 1, 0, none⟩) (show w.heap.size + 1 < w2.heap.size by omega)).trans q1
      have r1f := (hb.frozen (p := ⟨w.heap.size + 1, 0, none⟩) (show w.heap.size + 1 < w2.heap.size by omega)).trans q1f
      rw [List.take_of_length_le (by rw [HLP.out]; exact Nat.le_refl _), Nat.sub_self, List.replicate_zero, List.append_nil] at hown
      have HOWN := Lib.hid hown
      clear hown
      go_wp2_with fail
      refine bodyPost_ret (v := .agg #[.slice (some ⟨w.heap.size + 2, 0, none⟩) k k]) (by simp [results, Tryd.results113, go_sem, r1]) rfl ?_
      have hbf := HBW.out.setCell (p := ⟨w.heap.size + 1, 0, none⟩) (Nat.le_succ _) (.slice (some ⟨w.heap.size + 2, 0, none⟩) k k)
      refine ⟨_, _, _, rfl, HPS.out _ _ hbf ?_, TurnIn.of_below hbf⟩
      exact Seen.of_own (own_other HOWN.out (grown_set (w.heap.size + 1) 0 (.slice (some ⟨w.heap.size + 2, 0, none⟩) k k)) (fun g e e2 => by simp [Value.ownBlock] at e e2; omega))

end Go.Proofs.YtipmfebnjmobfaaDoor
