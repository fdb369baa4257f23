/- The walk of FnAnyFew. -/
import Derived.Test.YtlkoafnlklhaeabDoorRows
import Derived.Test.YtlkoafnlklhaeabDoorBd14
import Derived.Test.YtlkoafnlklhaeabDoorBd03
import Derived.Test.YtlkoafnlklhaeabDoorBd13
import Derived.Test.YtlkoafnlklhaeabDoorBd12
import Derived.Test.YtlkoafnlklhaeabDoorBd11
import Derived.Test.YtlkoafnlklhaeabDoorBd05
set_option linter.unusedSimpArgs false
set_option linter.unusedVariables false
namespace Go.Proofs.YtlkoafnlklhaeabDoor
open Go.ChangeShapes Go.WideShapes Go.ChangeAt Go.RowKit G294

set_option maxRecDepth 100000 in
set_option maxHeartbeats 1000000 in
theorem sameMatrices_same (v u : Value) (L : Mat) (w : World) (hv : SeenM w v L) (hu : SeenM w u L) : Calls Tryd.prog 24 #[.agg #[v], .agg #[u]] w (RetBool w true) := by
  obtain ⟨A, c, rfl, hlc, hcm⟩ := hv.len
  obtain ⟨A', c', rfl, hlc', hcm'⟩ := hu.len
  have hb0 : Below w.heap.size w ((w.alloc (.cells #[.slice A L.length c] 52)).alloc (.cells #[.slice A' L.length c'] 52)) := ((Below.refl _ _).alloc (Nat.le_refl _) _).alloc (by simp) _
  have c0 : ((w.alloc (.cells #[.slice A L.length c] 52)).alloc (.cells #[.slice A' L.length c'] 52)).cell? ⟨w.heap.size, 0, none⟩ = some (.slice A L.length c) := cell_turn (turn_alloc _ _) (alloc_cell _ _ _) (alloc_lt _ _)
  have c1 : ((w.alloc (.cells #[.slice A L.length c] 52)).alloc (.cells #[.slice A' L.length c'] 52)).cell? ⟨w.heap.size + 1, 0, none⟩ = some (.slice A' L.length c') := by have := alloc_cell (w.alloc (.cells #[.slice A L.length c] 52)) (.slice A' L.length c') 52; rwa [World.size_alloc] at this
  have z0 : ((w.alloc (.cells #[.slice A L.length c] 52)).alloc (.cells #[.slice A' L.length c'] 52)).heap.size = w.heap.size + 2 := by simp
  have HV := Lib.hid (hv.below hb0)
  have HU := Lib.hid (hu.below hb0)
  unfold maxLen at hcm hcm'
  clear hv hu
  generalize hnn : L.length = n at *
  have HN := Lib.hid hnn
  clear hnn
  have hbn : ((n : Int) != (n : Int)) = false := by simp
  go_enter Tryd.func24, Tryd.ntmps24
  go_wp2_with fail
  generalize ((w.alloc (.cells #[.slice A n c] 52)).alloc (.cells #[.slice A' n c'] 52)) = w0 at *
  have hz0 : w.heap.size + 2 ≤ w0.heap.size := by omega
  clear z0
  go_loopw [16] (fun i wr => ∃ k : Nat, k ≤ n ∧ i = .int .i64 k ∧ Below w0.heap.size w0 wr) (fun i _ => n - (intOf i).toNat)
  case atStart => exact ⟨0, Nat.zero_le _, rfl, Below.refl _ _⟩
  case round =>
    obtain ⟨k, hk, rfl, hb⟩ := hrel
    by_cases hlt : k < n
    · obtain ⟨bb, off, c2, r1, hvv, _, _, hbl, hc1, hs1⟩ := (HV.out.below hb).row k (by rw [HN.out]; exact hlt)
      obtain ⟨bb', off', c2', r2, huu, _, _, hbl', hc1', hs1'⟩ := (HU.out.below hb).row k (by rw [HN.out]; exact hlt)
      simp only [Value.slice.injEq] at hvv huu
      obtain ⟨rfl, z1, rfl⟩ := hvv
      obtain ⟨rfl, z2, rfl⟩ := huu
      clear z1 z2
      have d0 := (hb.cell (p := ⟨w.heap.size, 0, none⟩) (show w.heap.size < w0.heap.size by omega)).trans c0
      have d1 := (hb.cell (p := ⟨w.heap.size + 1, 0, none⟩) (show w.heap.size + 1 < w0.heap.size by omega)).trans c1
      have hki : (k : Int) < (n : Int) := by omega
      have hk0 : (0 : Int) ≤ (k : Int) := Int.natCast_nonneg _
      have HS1 := Lib.hid hs1
      have HS2 := Lib.hid hs1'
      have hll : (L.getD k [] == L.getD k []) = true := by simp
      have HQ : Hid (∀ q : Nat, Calls Tryd.prog 49 #[r1, r2] (wr.drewN q) fun e w' => e = .returned (.bool true) ∧ wr.drewN q = w') := fun q => by
        have := sameBytes_any r1 r2 (L.getD k []) (L.getD k []) (wr.drewN q) HS1.out HS2.out
        rwa [hll] at this
      clear hs1 hs1' hll
      go_wp2_with fail
      go_quiet ((go_at_call 49; exact quietly (HQ.out _)))
      go_wp2_with fail
      go_roundw
      case rel => exact ⟨k + 1, by omega, by go_num, below_drewN hb _⟩
      case measure => simp [intOf]; omega
    · obtain rfl : k = n := by omega
      have hki : ¬ (k : Int) < (k : Int) := by omega
      go_wp2_with fail
      go_ret
      exact ⟨rfl, TurnIn.of_below (hb0.trans (hb.mono (by omega)))⟩

set_option maxRecDepth 100000 in
set_option maxHeartbeats 4000000 in
theorem anyFew_walk (v u : Value) (l0 m0 : List UInt8) (w : World) (hv : Seen w v (bys l0)) (hu : Seen w u (bys m0)) (ht : Tab w) (h0 : 0 < w.heap.size) :
    Calls Tryd.prog 4 #[v, u] w fun e w' => e = .returned (.bool true) ∧ Below w.heap.size w w' := by
  have HV := Lib.hid hv
  have HU := Lib.hid hu
  obtain ⟨A, c, rfl, hlc, hcm, hx⟩ := hv
  obtain ⟨A', c', rfl, hlc', hcm', hx'⟩ := hu
  rw [bys_length] at hlc hlc' HV HU
  simp only [bys_length]
  clear hx hx'
  unfold maxLen at hcm hcm'
  generalize l0.length = n1 at *
  generalize m0.length = n2 at *
  have HTB := Lib.hid ht
  clear ht
  by_cases hbig : 1048576 < wrap64 ((n1 : Int) + (n2 : Int))
  · go_enter Tryd.func4, Tryd.ntmps4
    go_wp2_with fail
    go_ret
    exact ⟨rfl, Below.refl _ _⟩
  have hB := Below.refl w.heap.size w
  go_enter Tryd.func4, Tryd.ntmps4
  go_wp2_with fail
  refine (drawEnc_any _ l0 _ HV.out).mono ?_
  rintro e w1 ⟨vT, T, b, rfl, ⟨b0, b1⟩, sT, k1⟩
  have s1 := k1.size
  replace hB := k1.base hB (by omega) (by omega)
  obtain ⟨AT, cT, hvT⟩ := sT.len
  rw [strs_length] at hvT
  subst hvT
  have HST := Lib.hid sT
  clear sT
  obtain ⟨q, rfl⟩ := Int.eq_ofNat_of_zero_le b0
  go_wp2_with fail
  refine (encodeShards_own _ T q _ HST.out (HTB.out.below hB h0) (by omega)).mono ?_
  rintro e w2 ⟨v2, rfl, o2, k2⟩
  have s2 := k2.size
  replace hB := k2.base hB (by omega) (by omega)
  have HST2 := Lib.hid (HST.out.touch k2)
  have HO2 := Lib.hid o2
  obtain ⟨A2, c2, hv2, _, _, _⟩ := o2.seen
  subst hv2
  clear o2
  go_wp2_with fail
  refine (sEncodeShards_own _ T q _ HST2.out).mono ?_
  rintro e w3 ⟨v3, rfl, o3, k3⟩
  have s3 := k3.size
  replace hB := k3.base hB (by omega) (by omega)
  have HST3 := Lib.hid (HST2.out.touch k3)
  have HO23 := Lib.hid (HO2.out.keep k3 (by omega))
  have HO3 := Lib.hid o3
  clear o3 HST HST2 HO2
  by_cases hok : encOk T q = true
  · have HOK := Lib.hid hok
    have hok2 := hok
    simp only [encOk, Bool.and_eq_true] at hok2
    obtain ⟨hsh, htx⟩ := hok2
    have hsb := shapeOk_b hsh
    have HSH := Lib.hid hsh
    have HR := Lib.hid (encR_yes hok)
    have HAT := Lib.hid (textsOk_at htx)
    have hn40 := textsOk_first htx
    have hlen2 : (encR T q).length = T.length + q := by rw [HR.out]; simp [encL]
    rw [HOK.out, hlen2]
    have hbt : (true != true) = false := rfl
    clear hok hsh htx
    go_wp2_with fail
    refine (sameShards_same _ _ _ _ (by have := HO23.out.seen; rwa [hlen2] at this) HO3.out.seen).mono ?_
    rintro e w4 ⟨rfl, k4⟩
    have s4 := k4.size
    replace hB := k4.base hB (by omega) (by omega)
    have HST4 := Lib.hid (HST3.out.touch k4)
    have HO4 := Lib.hid (HO23.out.keep k4 (by omega))
    clear HO3
    generalize hnn : (T.getD 0 []).length = n at *
    have HNN := Lib.hid hnn
    have HEL : Hid (encR T q = shardsF (T.length + q) T.length n (codF T.length) T) := by show _ = _; rw [HR.out, encL, HNN.out]
    generalize hkk : T.length = k at *
    have HKK := Lib.hid hkk
    clear hkk hnn hlen2
    have hkq : (k : Int) + (q : Int) = ((k + q : Nat) : Int) := by omega
    have HSO := Lib.hid (someOf_own (k + q) k _ m0 w4 (HU.out.below hB) (by omega) (by omega))
    rw [← hkq] at HSO
    have HTI := Lib.hid (takes_inv (show k ≤ k + q by omega) (evenAt m0) (k + q) (Nat.le_refl _))
    generalize takes (k + q) k (evenAt m0) (k + q) = is at *
    have HAF := Lib.hid (any_few (T := T) (n := n) HSH.out HTI.out.1 (by have := HTI.out.2.1; omega) HKK.out HAT.out hn40)
    clear hkq
    go_wp2_with fail
    refine HSO.out.mono ?_
    rintro e w5 ⟨v5, rfl, o5, k5⟩
    have s5 := k5.size
    replace hB := k5.base hB (by omega) (by omega)
    have HST5 := Lib.hid (HST4.out.touch k5)
    have HO5 := Lib.hid (HO4.out.keep k5 (by omega)).seen
    obtain ⟨A5, c5, rfl, hlc5, hcm5, hx5⟩ := o5.seen
    rw [ints_length, List.length_map] at hlc5 hx5
    rw [ints_length, List.length_map]
    unfold maxLen at hcm5
    have hisl : is.length ≤ 1000 := by have := HTI.out.2.2; omega
    have hisk : k ≤ is.length := by have := HTI.out.2.1; omega
    obtain ⟨b5, f5, rfl, hbl5, hcell5⟩ := hx5 (by omega)
    have HC5 : Hid (∀ j (hj : j < is.length), w5.cell? ⟨b5, f5 + j, none⟩ = some (.int .i64 ((is[j] : Nat) : Int))) := fun j hj => hcell5 j _ (by simp [ints, hj])
    obtain ⟨A2', c2', hvv2, hlc2, hcm2, hx2⟩ := HO5.out
    rw [HEL.out, shardsF_length] at hvv2 hlc2 hx2
    simp only [Value.slice.injEq] at hvv2
    obtain ⟨rfl, -, rfl⟩ := hvv2
    unfold maxLen at hcm2
    obtain ⟨b2, f2, rfl, hbl2, hcell2⟩ := hx2 (by omega)
    have HC2 : Hid (∀ j, j < k + q → w5.cell? ⟨b2, f2 + j * 2, none⟩ = some (.int .i64 (j : Int)) ∧ w5.cell? ⟨b2, f2 + j * 2 + 1, none⟩ = some (.string (str (comb k n (codF k j) T)))) := fun j hj => hcell2 j (((j : Nat) : Int), comb k n (codF k j) T) (by simp [shardsF, hj])
    clear hx5 hcell5 hx2 hcell2 o5
    go_wp2_with fail
    go_loopw [12, 69] (fun o i wr => ∃ j : Nat, j ≤ is.length ∧ i = .int .i64 j ∧ wr.ownsRow w5.heap.size 27 2 o j (shs (pickS k n T (is.take j))) ∧ Below w5.heap.size w5 wr)
      (fun _ i _ => is.length - (intOf i).toNat)
    case atStart => exact ⟨0, Nat.zero_le _, rfl, World.ownsRow_nil _ _ _ _, Below.refl _ _⟩
    case round =>
      obtain ⟨j, hj, rfl, hown, hb⟩ := hrel
      have hbs := hb.size
      by_cases hlt : j < is.length
      · have hji : (j : Int) < (is.length : Int) := by omega
        have cx := (hb.cell (p := ⟨b5, f5 + j, none⟩) hbl5).trans (HC5.out j hlt)
        have hib := HTI.out.1.1 is[j] (List.getElem_mem hlt)
        have HTK : Hid (pickS k n T (is.take (j + 1)) = pickS k n T (is.take j) ++ [(((is[j] : Nat) : Int), comb k n (codF k is[j]) T)]) := by
          show _ = _
          rw [List.take_succ_eq_append_getElem hlt]; simp only [pickS, List.map_append, List.map_cons, List.map_nil]
        generalize is[j] = i at *
        obtain ⟨cy0, cy1⟩ := HC2.out i hib
        replace cy0 := (hb.cell (p := ⟨b2, f2 + i * 2, none⟩) hbl2).trans cy0
        replace cy1 := (hb.cell (p := ⟨b2, f2 + i * 2 + 1, none⟩) hbl2).trans cy1
        have hii : (i : Int) < ((k + q : Nat) : Int) := by omega
        have hi0 : (0 : Int) ≤ (i : Int) := Int.natCast_nonneg _
        generalize comb k n (codF k i) T = tx at *
        go_wp2_with (at_builtin; refine wpList_append2 rfl _ _ _ rfl w5.heap.size 27 _ _ Tryd.underlying23 infoShard rfl _ j _ rfl (hown.alloc _) wr.heap.size (.int .i64 i) (.string (str tx)) rfl ?c1 ?c5 rfl rfl ?c2 ?c3 ?c4 ?_)
        case c1 => simp
        case c5 => simp
        case c2 => omega
        case c3 => omega
        case c4 => simp; omega
        intro v' w' hown' hg' _
        have hb' : Below w5.heap.size w5 w' := below_append (hb.alloc hbs _) (hown.alloc _) hg' (Nat.le_refl _) (by simp; omega)
        have HO' : Hid (w'.ownsRow w5.heap.size 27 2 v' (j + 1) (shs (pickS k n T (is.take (j + 1))))) := by
          show World.ownsRow _ _ _ _ _ _ _
          rw [HTK.out, shs_append]; exact hown'
        clear hown' hg'
        go_wp2_with fail
        go_roundw
        case rel => exact ⟨j + 1, by omega, by go_num, HO'.out, hb'⟩
        case measure => simp [intOf]; omega
      · obtain rfl : j = is.length := by omega
        have hji : ¬ (is.length : Int) < (is.length : Int) := by omega
        rw [List.take_of_length_le (Nat.le_refl _)] at hown
        have oP : OwnSh 27 wr w5.heap.size wr.heap.size u12 (pickS k n T is) := ⟨by rw [pickS_length]; exact hown, Nat.le_refl _, fun x hx => (hown.lt x hx).2⟩
        have k6 := TurnIn.of_below hb
        replace hB := k6.base hB (by omega) (by omega)
        have HST6 := Lib.hid (HST5.out.touch k6)
        obtain ⟨hd1, hd2, hd3⟩ := HAF.out
        have HD1 := Lib.hid hd1
        have HD2 := Lib.hid hd2
        have HD3 := Lib.hid hd3
        have HOP := Lib.hid oP
        obtain ⟨A6, c6, hv6, _, _, _⟩ := oP.seen
        rw [pickS_length] at hv6
        subst hv6
        clear oP hown hd1 hd2 hd3 hb
        go_wp2_with fail
        refine (decodeShards_own _ _ k q _ HOP.out.seen (by simp; omega) (HTB.out.below hB h0) (by omega)).mono ?_
        rintro e w7 ⟨v7, rfl, o7, k7⟩
        rw [HD1.out]
        rw [HD2.out] at o7
        have s7 := k7.size
        replace hB := k7.base hB (by omega) (by omega)
        have HST7 := Lib.hid (HST6.out.touch k7)
        have HOP7 := Lib.hid (HOP.out.keep k7 (by omega))
        go_wp2_with fail
        refine (checkShards_own _ _ k q _ HOP7.out.seen (by simp; omega) (HTB.out.below hB h0) (by omega)).mono ?_
        rintro e w8 ⟨rfl, k8⟩
        rw [HD1.out, HD3.out]
        have s8 := k8.size
        replace hB := k8.base hB (by omega) (by omega)
        have HST8 := Lib.hid (HST7.out.touch k8)
        have o8 := o7.keep k8 (by omega)
        have HCR : Hid (shapeOk k q = true) := HSH.out
        go_wp2_with fail
        refine (codeMatrix_own k q _ (HTB.out.below hB h0) (by omega)).mono ?_
        rintro e w9 ⟨v9, vs9, rfl, o9, k9⟩
        rw [HCR.out]
        have s9 := k9.size
        replace hB := k9.base hB (by omega) (by omega)
        have HST9 := Lib.hid (HST8.out.touch k9)
        replace o8 := o8.keep k9 (by omega)
        obtain ⟨A9, n9, c9, rfl⟩ := o9.isSlice
        have a9 := turn_alloc w9 (.cells #[.slice A9 n9 c9] 52)
        have z9 := World.size_alloc w9 (.cells #[.slice A9 n9 c9] 52)
        have e9 := alloc_cell w9 (.slice A9 n9 c9) 52
        replace hB := a9.base hB (by omega) (by omega)
        have HSTa := Lib.hid (HST9.out.touch a9)
        replace o8 := o8.keep a9 (by omega)
        have sM := o9.seen.touch a9
        go_wp2_with fail
        refine (sCodeMatrix_own k q _).mono ?_
        rintro e wa ⟨va, vsa, rfl, oa, ka⟩
        rw [HCR.out]
        have sa := ka.size
        replace hB := ka.base hB (by omega) (by omega)
        have HSTb := Lib.hid (HSTa.out.touch ka)
        replace o8 := o8.keep ka (by omega)
        replace sM := sM.touch ka
        replace e9 := cell_turn ka e9 (by omega)
        obtain ⟨Aa, na, ca, rfl⟩ := oa.isSlice
        have ab := turn_alloc wa (.cells #[.slice Aa na ca] 52)
        have zb := World.size_alloc wa (.cells #[.slice Aa na ca] 52)
        have eb := alloc_cell wa (.slice Aa na ca) 52
        replace hB := ab.base hB (by omega) (by omega)
        have HSTc := Lib.hid (HSTb.out.touch ab)
        replace o8 := o8.keep ab (by omega)
        replace sM := sM.touch ab
        have sN := oa.seen.touch ab
        replace e9 := cell_turn ab e9 (by omega)
        have HSM := Lib.hid sM
        have HSN := Lib.hid sN
        have HO8 := Lib.hid o8.seen
        clear sM sN o8 o7 oa o9
        have hlq : (((k + q : Nat) : Int) == (k : Int) + (q : Int)) = true := by simp
        go_wp2_with fail
        refine (sameTexts_same _ _ T _ HO8.out HSTc.out).mono ?_
        rintro e wd ⟨rfl, kd⟩
        have sd := kd.size
        replace hB := kd.base hB (by omega) (by omega)
        replace e9 := cell_turn kd e9 (by omega)
        replace eb := cell_turn kd eb (by omega)
        go_wp2_with fail
        refine (sameMatrices_same _ _ _ _ (HSM.out.touch kd) (HSN.out.touch kd)).mono ?_
        rintro e we ⟨rfl, ke⟩
        replace hB := ke.base hB (by omega) (by omega)
        go_wp2_with fail
        refine (goodShape_any k q _).mono ?_
        rintro e w' ⟨rfl, rfl⟩
        rw [HCR.out]
        go_wp2_with fail
        go_ret
        exact ⟨by simp [hlq], hB⟩
  · have HOK : Hid (encOk T q = false) := by show encOk T q = false; simpa using hok
    have HR := Lib.hid (encR_no HOK.out)
    rw [HOK.out]
    have hl0 : (encR T q).length = 0 := by rw [HR.out]; rfl
    have hbf : (false != false) = false := rfl
    clear hok
    rw [hl0]
    go_wp2_with fail
    refine (sameShards_same _ _ _ _ (by have := HO23.out.seen; rwa [hl0] at this) HO3.out.seen).mono ?_
    rintro e w4 ⟨rfl, k4⟩
    replace hB := k4.base hB (by omega) (by omega)
    go_wp2_with fail
    go_ret
    exact ⟨rfl, hB⟩

set_option maxRecDepth 100000 in
theorem walk_FnAnyFew : G294.LawWalk Tryd.prog 4 Tryd.f4 Rows.fnAnyFewSpec.vars false (fun W => laidMetH Tryd.prog Rows.fnAnyFewRow.laid W) := by
  intro H enc W base args ds gs before hval hW hX
  have hlt0 : ∀ p ∈ before, p.block < W.heap.size := fun p hp => hW.lt p hp
  obtain ⟨p, q, hA, hV, rfl, hfz, hnd⟩ := hW
  rw [Tryd.params4] at hA hval
  obtain ⟨u0, u1, d0, d1, p0, p1, rfl, rfl, rfl, t0, t1⟩ := trodAll_two hA
  obtain ⟨l0, sn0⟩ := seen_bytes Tryd.underlying22 Tryd.underlying5 (by kernel_rfl) (hval 0 22 u0 rfl rfl) t0 (fun x hx => hlt0 x (by simp [hx]))
  obtain ⟨l1, sn1⟩ := seen_bytes Tryd.underlying22 Tryd.underlying5 (by kernel_rfl) (hval 1 22 u1 rfl rfl) t1 (fun x hx => hlt0 x (by simp [hx]))
  obtain ⟨ht, hs⟩ := tab_of (by kernel_rfl) hX 0 rfl (by kernel_rfl)
  exact anyFew_walk u0 u1 l0 l1 W sn0 sn1 ht hs

end Go.Proofs.YtlkoafnlklhaeabDoor
