/- The laws' helpers on matrices: a copy, equality, marks, marks held, sizes. -/
import Derived.Test.YtbopocpmodpfcaaDoorMatI
import Derived.Test.YtbopocpmodpfcaaDoorBytesOwn
import Derived.Test.YtbopocpmodpfcaaDoorTurns
set_option linter.unusedSimpArgs false
set_option linter.unusedVariables false
namespace G294
open Go Go.RowKit
/-- a mark of rows -/
def RetMarkM (E EE : TypeId) (w : World) (lo hi : Nat) (v : Value) (vs : List Value) (k : Nat) (L : Mat) (e : Ending) (w' : World) : Prop :=
  e = .returned (.int .i64 ((k + sizM L : Nat) : Int)) ∧ OwnM E EE w' lo hi v (marksM k L) vs ∧ TurnIn lo hi w w'
def szR (left : Nat) (n : Nat) : Int := if n ≤ left then (left : Int) - n else -1
theorem getD_mark (L : Mat) (k i : Nat) (hi : i < L.length) : ((marksM k L).take i ++ L.drop i).getD i [] = L.getD i [] := by
  have ht : ((marksM k L).take i).length = i := by rw [List.length_take, marksM_length]; omega
  simp only [List.getD]
  rw [List.getElem?_append_right (by omega), ht, Nat.sub_self, List.getElem?_drop, Nat.add_zero]
theorem set_mark (L : Mat) (k i : Nat) (hi : i < L.length) : ((marksM k L).take i ++ L.drop i).set i (marks (k + sizM (L.take i)) (L.getD i []).length) = (marksM k L).take (i + 1) ++ L.drop (i + 1) := by
  refine take_set_over _ _ i _ ?_ (marksM_length L k)
  have := marksM_getD L k i hi
  rw [← this]
  have hl : i < (marksM k L).length := by rw [marksM_length]; exact hi
  simp [List.getD, hl]
theorem set_copy (L : Mat) (i n : Nat) (hi : i < L.length) (hn : n = L.length) : (L.take i ++ List.replicate (n - i) []).set i (L.getD i []) = L.take (i + 1) ++ List.replicate (n - (i + 1)) [] := by
  have e : List.replicate (n - i) ([] : List UInt8) = [] :: List.replicate (n - (i + 1)) [] := by
    rw [← List.replicate_succ]; congr 1; omega
  have ht : (L.take i).length = i := by rw [List.length_take]; omega
  have e3 : L.getD i [] = L[i] := by simp [List.getD, hi]
  rw [e, set_mid _ _ _ _ _ ht, e3, List.take_succ_eq_append_getElem hi, List.append_assoc]
  rfl
end G294
namespace Go.Proofs.YtbopocpmodpfcaaDoor
open Go.RowKit G294

set_option maxHeartbeats 1000000 in
theorem eqByteSS_same (v u : Value) (L : Mat) (w : World) (hv : SeenM w v L) (hu : SeenM w u L) : Calls Tryd.prog 87 #[v, u] w (RetBool w true) := by
  obtain ⟨A, c, rfl, hlc, hcm⟩ := hv.len
  obtain ⟨A', c', rfl, hlc', hcm'⟩ := hu.len
  have HV := Lib.hid hv
  have HU := Lib.hid hu
  unfold maxLen at hcm hcm'
  clear hv hu
  generalize hnn : L.length = n at *
  have HN := Lib.hid hnn
  clear hnn
  have hbn : ((n : Int) != (n : Int)) = false := by simp
  go_enter Tryd.func87, Tryd.ntmps87
  go_wp2_with fail
  go_loopw [5] (fun i wr => ∃ k : Nat, k ≤ n ∧ i = .int .i64 k ∧ Below w.heap.size w wr) (fun i _ => n - (intOf i).toNat)
  case atStart => exact ⟨0, Nat.zero_le _, rfl, Below.refl _ _⟩
  case round =>
    obtain ⟨k, hk, rfl, hb⟩ := hrel
    by_cases hlt : k < n
    · obtain ⟨bb, off, c2, r1, hvv, _, _, hbl, hc1, hs1⟩ := (HV.out.below hb).row k (by rw [HN.out]; exact hlt)
      obtain ⟨bb', off', c2', r2, huu, _, _, hbl', hc1', hs1'⟩ := (HU.out.below hb).row k (by rw [HN.out]; exact hlt)
      simp only [Value.slice.injEq] at hvv huu
      obtain ⟨rfl, z1, rfl⟩ := hvv
      obtain ⟨rfl, z2, rfl⟩ := huu
      clear z1 z2
      have hki : (k : Int) < (n : Int) := by omega
      have hk0 : (0 : Int) ≤ (k : Int) := Int.natCast_nonneg _
      have HS1 := Lib.hid hs1
      have HS2 := Lib.hid hs1'
      have hbs := hb.size
      clear hs1 hs1'
      go_wp2_with fail
      go_region_held3 (fun w' => w'.cell? ⟨bb, off + k, none⟩ = some r1 ∧ w'.cell? ⟨bb', off' + k, none⟩ = some r2)
        (first | exact ⟨hc1, hc1'⟩ | exact ⟨q1, q2⟩)
        ((go_at_call 111; refine (eqByteS_same r1 r2 (L.getD k []) wr.drew HS1.out HS2.out).mono ?_; rintro e w' ⟨rfl, ht⟩; have q1 := cell_turn ht (show wr.drew.cell? ⟨bb, off + k, none⟩ = some r1 from hc1) hbl; have q2 := cell_turn ht (show wr.drew.cell? ⟨bb', off' + k, none⟩ = some r2 from hc1') hbl'))
      have hb2 : Below w.heap.size w w' := ht.base hb.drew hbs (by omega)
      clear ht q1 q2
      go_wp2_with fail
      go_roundw
      case rel => exact ⟨k + 1, by omega, by go_num, hb2⟩
      case measure => simp [intOf]; omega
    · obtain rfl : k = n := by omega
      go_wp2_with fail
      go_ret
      exact ⟨rfl, TurnIn.of_below hb⟩

set_option maxHeartbeats 1000000 in
theorem eqMatrix_same (v u : Value) (L : Mat) (w : World) (hv : SeenM w v L) (hu : SeenM w u L) : Calls Tryd.prog 32 #[.agg #[v], .agg #[u]] w (RetBool w true) := by
  have hb1 : Below w.heap.size w ((w.alloc (.cells #[v] 39)).alloc (.cells #[u] 39)) := ((Below.refl _ _).alloc (Nat.le_refl _) _).alloc (by simp) _
  have HB := Lib.hid hb1
  have HV := Lib.hid (hv.below hb1)
  have HU := Lib.hid (hu.below hb1)
  obtain ⟨A, c, rfl, _, _⟩ := hv.len
  obtain ⟨A', c', rfl, _, _⟩ := hu.len
  clear hv hu hb1
  go_enter Tryd.func32, Tryd.ntmps32
  go_wp2_with fail
  refine (eqByteSS_same _ _ L _ HV.out HU.out).mono ?_
  rintro e w' ⟨rfl, ht⟩
  go_wp2_with fail
  go_ret
  exact ⟨rfl, turn_of_below HB.out ht⟩

set_option maxRecDepth 100000 in
set_option maxHeartbeats 1000000 in
theorem markByteSS_own (v : Value) (L : Mat) (vs : List Value) (k0 lo hi : Nat) (w : World) (hv : OwnM 5 22 w lo hi v L vs) (hk0 : k0 + sizM L ≤ 1000000000000) :
    Calls Tryd.prog 88 #[v, .int .i64 k0] w (RetMarkM 5 22 w lo hi v vs k0 L) := by
  have hlen := hv.seen.len
  obtain ⟨A, c, rfl, hlc, hcm⟩ := hlen
  unfold maxLen at hcm
  have HV := Lib.hid hv
  clear hv
  generalize hnn : L.length = n at *
  have HN := Lib.hid hnn
  clear hnn
  go_enter Tryd.func88, Tryd.ntmps88
  go_wp2_with fail
  go_loopw [1, 5] (fun q i wr => ∃ k m : Nat, k ≤ n ∧ i = .int .i64 k ∧ q = .int .i64 m ∧ Hid (m = k0 + sizM (L.take k)) ∧ Hid (OwnM 5 22 wr lo hi (.slice A n c) ((marksM k0 L).take k ++ L.drop k) vs) ∧ Hid (TurnIn lo hi w wr))
    (fun _ i _ => n - (intOf i).toNat)
  case atStart => exact ⟨0, k0, Nat.zero_le _, rfl, rfl, by show k0 = k0 + sizM (L.take 0); simp [sizM], Lib.hid (by simpa using HV.out), Lib.hid ⟨rfl, rfl, rfl, Nat.le_refl _, fun _ _ _ => rfl⟩⟩
  case round =>
    obtain ⟨k, m, hk, rfl, rfl, HM, HO, HT⟩ := hrel
    by_cases hlt : k < n
    · have hkl : k < L.length := by rw [HN.out]; exact hlt
      have hlm : ((marksM k0 L).take k ++ L.drop k).length = n := by rw [List.length_append, List.length_take, List.length_drop, marksM_length, HN.out]; omega
      have HLM := Lib.hid hlm
      obtain ⟨u, hu, hrow⟩ := HO.out.at k (by rw [hlm]; exact hlt)
      obtain ⟨g, cp, hsl, _, _, _, _⟩ := HO.out.slice (by rw [hlm]; omega)
      rw [hlm] at hsl
      simp only [Value.slice.injEq] at hsl
      obtain ⟨rfl, z1, rfl⟩ := hsl
      clear z1
      have hco := HO.out.cellAt hu
      rw [getD_mark L k0 k hkl] at hrow
      have HR := Lib.hid hrow
      have HU := Lib.hid hu
      have hki : (k : Int) < (n : Int) := by omega
      have hmb : m + (L.getD k []).length ≤ 1000000000000 := by
        have e1 := sizM_take_succ L k hkl
        have e2 := sizM_take_le L (k + 1)
        have e3 := HM.out
        omega
      clear hlm hrow hu
      go_wp2_with fail
      refine (markByteS_any u (L.getD k []) m lo _ HR.out.1 hmb).mono ?_
      rintro e w' ⟨rfl, ho, hg⟩
      rw [bys_length, marks_length] at ho
      have hO2 := (HO.out.row_turn (r := marks m (L.getD k []).length) (by rw [HLM.out]; exact hlt) HU.out hg (by rw [marks_length]; exact ho)).congr (L' := (marksM k0 L).take (k + 1) ++ L.drop (k + 1)) (by rw [HM.out]; exact set_mark L k0 k hkl)
      have hT2 : TurnIn lo hi w w' := turn_trans HT.out (TurnIn.of_grown (lo := lo) (hi := hi) hg (fun g e => ⟨(HR.out.1.lt g e).1, HR.out.2.2 g e⟩)) (by omega)
      have HO2 := Lib.hid hO2
      have HT2 := Lib.hid hT2
      have HM2 : Hid (m + (L.getD k []).length = k0 + sizM (L.take (k + 1))) := by
        show m + _ = _
        rw [sizM_take_succ L k hkl, HM.out]; omega
      clear hO2 hT2 ho hg
      generalize (L.getD k []).length = nk at *
      go_wp2_with fail
      go_roundw
      case rel => exact ⟨k + 1, m + nk, by omega, by go_num, rfl, HM2, HO2, HT2⟩
      case measure => simp [intOf]; omega
    · obtain rfl : k = n := by omega
      go_wp2_with fail
      go_ret
      refine ⟨?_, ?_, HT.out⟩
      · rw [HM.out, List.take_of_length_le (by rw [HN.out]; exact Nat.le_refl _)]; rfl
      · have := HO.out
        rw [List.take_of_length_le (by rw [marksM_length, HN.out]; exact Nat.le_refl _), List.drop_of_length_le (by rw [HN.out]; exact Nat.le_refl _), List.append_nil] at this
        exact this

set_option maxHeartbeats 1000000 in
theorem markMatrix_own (v : Value) (L : Mat) (vs : List Value) (k0 lo hi : Nat) (w : World) (hv : OwnM 5 22 w lo hi v L vs) (hk0 : k0 + sizM L ≤ 1000000000000) :
    Calls Tryd.prog 33 #[.agg #[v], .int .i64 k0] w (RetMarkM 5 22 w lo hi v vs k0 L) := by
  have k1 : TurnIn 0 0 w (w.alloc (.cells #[v] 39)) := TurnIn.of_below ((Below.refl _ _).alloc (Nat.le_refl _) _)
  have HV := Lib.hid (hv.keep k1 (by omega))
  have K1 := Lib.hid k1
  obtain ⟨A, n, c, rfl⟩ := hv.isSlice
  clear hv k1
  go_enter Tryd.func33, Tryd.ntmps33
  go_wp2_with fail
  refine (markByteSS_own _ L vs k0 lo hi _ HV.out hk0).mono ?_
  rintro e w' ⟨rfl, ho, ht⟩
  go_wp2_with fail
  go_ret
  have hs := K1.out.size
  exact ⟨rfl, ho, ⟨ht.os.trans K1.out.os, ht.tape.trans K1.out.tape, ht.output.trans K1.out.output, Nat.le_trans hs ht.size, fun k hk hd => (ht.block k (by omega) hd).trans (K1.out.block k hk (by omega))⟩⟩

set_option maxRecDepth 100000 in
set_option maxHeartbeats 1000000 in
theorem heldByteSS_own (v : Value) (L : Mat) (k0 : Nat) (w : World) (hv : SeenM w v (marksM k0 L)) (hk0 : k0 + sizM L ≤ 1000000000000) :
    Calls Tryd.prog 89 #[v, .int .i64 k0] w (RetInt w ((k0 + sizM L : Nat) : Int)) := by
  obtain ⟨A, c, rfl, hlc, hcm⟩ := hv.len
  unfold maxLen at hcm
  have HV := Lib.hid hv
  clear hv
  rw [marksM_length] at hlc ⊢
  generalize hnn : L.length = n at *
  have HN := Lib.hid hnn
  clear hnn
  go_enter Tryd.func89, Tryd.ntmps89
  go_wp2_with fail
  go_loopw [1, 5] (fun q i wr => ∃ k m : Nat, k ≤ n ∧ i = .int .i64 k ∧ q = .int .i64 m ∧ Hid (m = k0 + sizM (L.take k)) ∧ Below w.heap.size w wr) (fun _ i _ => n - (intOf i).toNat)
  case atStart => exact ⟨0, k0, Nat.zero_le _, rfl, rfl, by show k0 = k0 + sizM (L.take 0); simp [sizM], Below.refl _ _⟩
  case round =>
    obtain ⟨k, m, hk, rfl, rfl, HM, hb⟩ := hrel
    by_cases hlt : k < n
    · have hkl : k < L.length := by rw [HN.out]; exact hlt
      obtain ⟨bb, off, c2, r1, hvv, _, _, hbl, hc1, hs1⟩ := (HV.out.below hb).row k (by rw [marksM_length]; exact hkl)
      rw [marksM_length, HN.out] at hvv
      simp only [Value.slice.injEq] at hvv
      obtain ⟨rfl, z1, rfl⟩ := hvv
      clear z1
      rw [marksM_getD L k0 k hkl, ← HM.out] at hs1
      have HS1 := Lib.hid hs1
      have hki : (k : Int) < (n : Int) := by omega
      have hbs := hb.size
      have hmb : m + (L.getD k []).length ≤ 1000000000000 := by
        have e1 := sizM_take_succ L k hkl
        have e2 := sizM_take_le L (k + 1)
        have e3 := HM.out
        omega
      have HM2 : Hid (m + (L.getD k []).length = k0 + sizM (L.take (k + 1))) := by
        show m + _ = _
        rw [sizM_take_succ L k hkl, HM.out]; omega
      clear hs1
      go_wp2_with fail
      refine (heldByteS_own r1 m (L.getD k []).length _ HS1.out hmb).mono ?_
      rintro e w' ⟨rfl, ht⟩
      have hb2 : Below w.heap.size w w' := ht.base hb hbs (by omega)
      have hneg : ¬ ((m + (L.getD k []).length : Nat) : Int) < 0 := by omega
      clear ht
      generalize (L.getD k []).length = nk at *
      go_wp2_with fail
      go_roundw
      case rel => exact ⟨k + 1, m + nk, by omega, by go_num, by go_num, HM2, hb2⟩
      case measure => simp [intOf]; omega
    · obtain rfl : k = n := by omega
      go_wp2_with fail
      go_ret
      refine ⟨?_, TurnIn.of_below hb⟩
      rw [HM.out, List.take_of_length_le (by rw [HN.out]; exact Nat.le_refl _)]; rfl

set_option maxHeartbeats 1000000 in
theorem heldMatrix_own (v : Value) (L : Mat) (k0 : Nat) (w : World) (hv : SeenM w v (marksM k0 L)) (hk0 : k0 + sizM L ≤ 1000000000000) :
    Calls Tryd.prog 34 #[.agg #[v], .int .i64 k0] w (RetInt w ((k0 + sizM L : Nat) : Int)) := by
  have hb1 : Below w.heap.size w (w.alloc (.cells #[v] 39)) := (Below.refl _ _).alloc (Nat.le_refl _) _
  have HB := Lib.hid hb1
  have HV := Lib.hid (hv.below hb1)
  obtain ⟨A, c, rfl, _, _⟩ := hv.len
  clear hv hb1
  go_enter Tryd.func34, Tryd.ntmps34
  go_wp2_with fail
  refine (heldByteSS_own _ L k0 _ HV.out hk0).mono ?_
  rintro e w' ⟨rfl, ht⟩
  have hneg : ¬ ((k0 + sizM L : Nat) : Int) < 0 := by omega
  generalize k0 + sizM L = z at *
  go_wp2_with fail
  go_ret
  exact ⟨rfl, turn_of_below HB.out ht⟩

end Go.Proofs.YtbopocpmodpfcaaDoor
