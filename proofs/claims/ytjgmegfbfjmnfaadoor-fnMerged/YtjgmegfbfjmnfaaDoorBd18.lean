/- Joined texts: CurS, CurT, CurM, CurN. -/
import Derived.Test.YtjgmegfbfjmnfaaDoorBd17
import Derived.IntWalk
set_option linter.unusedSimpArgs false
set_option linter.unusedVariables false
/- The cursor draws a stripe. -/
namespace Go.Proofs.YtjgmegfbfjmnfaaDoor
open Go.RowKit G294
theorem rowsT_mem_len {r c n : Nat} {F : Ents} {T : List (List UInt8)} {t : List UInt8} (h : t ∈ rowsT r c n F T) : t.length = n := by
  simp only [rowsT, mkM, List.mem_map] at h
  obtain ⟨i, _, rfl⟩ := h
  exact mkRow_length _ _

set_option maxRecDepth 100000 in
set_option maxHeartbeats 8000000 in
theorem stripe_any (g : Nat) (cv : Value) (m : Nat) (w : World) (hc : CurAt w g cv m) (hm : m ≤ 1000000) :
    Calls Tryd.prog 79 #[.pointer (some ⟨g, 0, none⟩)] w (DrawsT w g cv (m + 2000)) := by
  have hgw := hc.lt
  have a0 := turn_alloc w (.cells #[.slice none 0 0, .slice none 0 0] 25)
  have z0 : w.heap.size + 1 ≤ (w.alloc (.cells #[.slice none 0 0, .slice none 0 0] 25)).heap.size := by simp
  have z0b : (w.alloc (.cells #[.slice none 0 0, .slice none 0 0] 25)).heap.size ≤ w.heap.size + 1 := by simp
  have hR0 : KeptR (w.alloc (.cells #[.slice none 0 0, .slice none 0 0] 25)) w.heap.size := ⟨alloc_duo0 _ _ _ _, alloc_duo1 _ _ _ _, alloc_frz _ _ _ _, alloc_frz _ _ _ _⟩
  have hc0 := hc.keep a0 (by omega)
  have HR0 := Lib.hid hR0
  clear hR0
  go_enter Tryd.func79, Tryd.ntmps79
  go_wp2_with fail
  refine (pick_any g cv m 5 _ hc0 (by omega)).mono ?_
  rintro e w1 ⟨r, rfl, ra, rb, hc1, k1⟩
  have hr : r ≤ 4 := by simpa [pickHi] using rb
  obtain ⟨rn, rfl⟩ := Int.eq_ofNat_of_zero_le ra
  have HD : Hid (Calls Tryd.prog 105 #[.pointer (some ⟨g, 0, none⟩), .int .i64 (1 + (rn : Int))] w1 (DrawsStrs w1 g cv (m + 2 + 10 + 200 * (1 + rn)))) := Lib.hid (by
    have h := data_any g cv (m + 2) (1 + rn) w1 hc1 (by omega) (by omega)
    have e : ((1 + rn : Nat) : Int) = 1 + (rn : Int) := by omega
    rwa [e] at h)
  have s1 := k1.size
  clear rb ra
  go_wp2_with fail
  refine HD.out.mono ?_
  rintro e w2 ⟨v2, T, rfl, hT, hc2, k2⟩
  have s2 := k2.size
  obtain ⟨A2, c2, hv2⟩ := hT.len
  rw [strs_length] at hv2
  subst hv2
  have HT := Lib.hid hT
  clear hT
  go_wp2_with fail
  refine (pick_any g cv _ 3 _ hc2 (by omega)).mono ?_
  rintro e w3 ⟨q, rfl, qa, qb, hc3, k3⟩
  have s3 := k3.size
  have hq2 : q ≤ 2 := by simpa [pickHi] using qb
  clear qb
  have HM := Lib.hid (sMakeStripe_own _ T (1 + q) w3 (cur_strs hc2 HT.out k3))
  clear HT HD
  go_wp2_with fail
  refine HM.out.mono ?_
  rintro e w4 ⟨x4, y4, rfl, hO, k4⟩
  obtain ⟨A4, n4, e4, A5, n5, e5, rfl, rfl⟩ := hO.isSlice
  obtain ⟨mid, hlm, hmh, oD, oP⟩ := hO
  have s4 := k4.size
  have a5 := turn_alloc w4 (.cells #[.slice A4 n4 e4, .slice A5 n5 e5] 25)
  have z5 := World.size_alloc w4 (.cells #[.slice A4 n4 e4, .slice A5 n5 e5] 25)
  have aG : TurnIn g (g + 1) w (w.alloc (.cells #[.slice none 0 0, .slice none 0 0] 25)) := ⟨a0.os, a0.tape, a0.output, a0.size, fun k hk _ => a0.block k hk (by omega)⟩
  have k03 := turn_trans (turn_trans k1 k2 (by omega)) k3 (by omega)
  have k05 := turn_trans (turn_trans (turn_trans aG k03 (by omega)) k4 (by omega)) a5 (by omega)
  have hR3 : KeptR w3 w.heap.size := ⟨cell_keepT HR0.out.r0 (by omega) k03 (by omega), cell_keepT HR0.out.r1 (by omega) k03 (by omega), frozen_keepT HR0.out.f0 (by omega) k03 (by omega), frozen_keepT HR0.out.f1 (by omega) k03 (by omega)⟩
  have k45 := turn_trans k4 a5 (by omega)
  have hSt : StrSt w (w4.alloc (.cells #[.slice A4 n4 e4, .slice A5 n5 e5] 25)) g w.heap.size w4.heap.size w3.heap.size mid w4.heap.size (m + 1200) cv (.slice A4 n4 e4) (.slice A5 n5 e5) (mkR T (1 + q)).1 (mkR T (1 + q)).2 :=
    ⟨((hc3.keep k4 (by omega)).keep a5 (by omega)).more (by omega), hR3.turn k45 (by omega), alloc_duo0 _ _ _ _, alloc_duo1 _ _ _ _, oD.keep a5 (by omega), oP.keep a5 (by omega), hgw, Nat.le_refl _, by omega, hlm, hmh, Nat.le_refl _, by omega, k05⟩
  have hl4 : n4 = (mkR T (1 + q)).1.length := by
    obtain ⟨A, c, h⟩ := oD.seen.len
    rw [strs_length] at h
    simp at h; exact h.2.1
  have hl5 : n5 = (mkR T (1 + q)).2.length := by
    obtain ⟨A, c, h⟩ := oP.seen.len
    rw [strs_length] at h
    simp at h; exact h.2.1
  have HL4 := Lib.hid hl4
  have HL5 := Lib.hid hl5
  have hs5 : w.heap.size ≤ (w4.alloc (.cells #[.slice A4 n4 e4, .slice A5 n5 e5] 25)).heap.size := by omega
  have HOK : Hid ((mkOk T (1 + q) = false → n4 = 0) ∧ (mkOk T (1 + q) = true → 1 ≤ n4 ∧ n4 ≤ 16 ∧ 1 ≤ n5 ∧ n5 ≤ 4 ∧ (∀ t ∈ (mkR T (1 + q)).1, t.length ≤ 40) ∧ ∀ t ∈ (mkR T (1 + q)).2, t.length ≤ 40)) := Lib.hid (by
    constructor
    · intro h; rw [HL4.out, mkR_no h]; rfl
    · intro h
      rw [HL4.out, HL5.out]
      unfold mkR
      rw [if_pos h]
      simp only [mkOk, prmOk, Bool.and_eq_true] at h
      have h1 := goodI_b h.1.1
      have h2 := par4_b h.1.2
      have h3 := textsOk_all.1 h.2
      refine ⟨by simp only [mkS]; omega, by simp only [mkS]; omega, by simp only [mkS, rowsT_length]; omega, by simp only [mkS, rowsT_length]; omega, fun t ht => (h3 t ht).2, fun t ht => by rw [rowsT_mem_len ht]; exact (h3 _ (getD_mem (by omega))).2⟩)
  generalize hD : (mkR T (1 + q)).1 = D at *
  generalize hP : (mkR T (1 + q)).2 = P at *
  generalize hok : mkOk T (1 + q) = ok at *
  have HSt := Lib.hid hSt
  have t0 := hSt.s0
  have t1 := hSt.s1
  clear hD hP hok hl4 hl5 hSt oD oP k4 a5 k45 k05 k03 HM HR0 hR3 k1 k2 k3 hc1 hc2 hc3 hc0 a0 aG
  cases ok
  · have hn0 : n4 = 0 := HOK.out.1 rfl
    subst hn0
    have HZ := HSt
    have HLL : Hid (D.length ≤ 16 ∧ ∀ r ∈ D, r.length ≤ 40) := Lib.hid ⟨by rw [← HL4.out]; omega, fun r hr => by have := List.length_pos_of_mem hr; have := HL4.out; omega⟩
    obtain ⟨q0, q1, g0, g1⟩ := HZ.out.kept
    have u0 := HZ.out.s0
    have u1 := HZ.out.s1
    have HE := Lib.hid HZ.out.done
    go_wp2_with fail
    refine bodyPost_ret (v := .agg #[.slice A4 0 e4, .slice A5 n5 e5]) (by simp [results, Tryd.results79, go_sem, q0, q1, g0, g1]) rfl ?_
    exact ⟨_, _, (_, _), _, _, _, rfl, HE.out.1, HE.out.2.1, HE.out.2.2.1, HLL.out, HE.out.2.2.2.1.more (by omega), HE.out.2.2.2.2⟩
  · obtain ⟨y1, y2, y3, y4, y5, y6⟩ := HOK.out.2 rfl
    have hpos : (0 : Int) < (n4 : Int) := by omega
    have hposd : decide ((0 : Int) < (n4 : Int)) = true := by simpa using hpos
    have HY5 := Lib.hid y5
    have HY6 := Lib.hid y6
    clear y5 y6
    go_wp2_with fail
    generalize (w4.alloc (.cells #[.slice A4 n4 e4, .slice A5 n5 e5] 25)) = w5 at *
    refine (one_any g cv _ 5 _ HSt.out.cur (by omega)).mono ?_
    rintro e w6 ⟨b6, rfl, hc6, k6⟩
    have HS6 := Lib.hid (HSt.out.draw k6 hc6)
    clear t0 t1
    cases b6
    · have HS := HS6
      have HLL : Hid (D.length ≤ 16 ∧ ∀ r ∈ D, r.length ≤ 40) := Lib.hid ⟨by rw [← HL4.out]; omega, HY5.out⟩
      have v0 := HS.out.s0
      have v1 := HS.out.s1
      go_wp2_with fail
      refine (one_any g cv _ 30 _ HS.out.cur (by omega)).mono ?_
      rintro e w8 ⟨b8, rfl, hc8, k8⟩
      have HS8 := Lib.hid (HS.out.draw k8 hc8)
      clear v0 v1
      cases b8
      · have HZ := HS8
        obtain ⟨q0, q1, g0, g1⟩ := HZ.out.kept
        have u0 := HZ.out.s0
        have u1 := HZ.out.s1
        have HE := Lib.hid HZ.out.done
        go_wp2_with fail
        refine bodyPost_ret (v := .agg #[.slice A4 n4 e4, .slice A5 n5 e5]) (by simp [results, Tryd.results79, go_sem, q0, q1, g0, g1]) rfl ?_
        exact ⟨_, _, (_, _), _, _, _, rfl, HE.out.1, HE.out.2.1, HE.out.2.2.1, HLL.out, HE.out.2.2.2.1.more (by omega), HE.out.2.2.2.2⟩
      · obtain ⟨gp, cpp, hvp, hgp1, hgp2, hgp3, hgp4, hcellp, hfzp⟩ := HS8.out.par.shape (by rw [← HL5.out]; omega)
        rw [← HL5.out] at hvp
        obtain ⟨rfl, rfl⟩ : A5 = some ⟨gp, 0, none⟩ ∧ e5 = cpp := by simpa using hvp
        have hcp0 := hcellp 0 (by rw [← HL5.out]; omega)
        have hfp0 := hfzp 0
        have x0 := HS8.out.s0
        have x1 := HS8.out.s1
        have hp0 : (0 : Int) < (n5 : Int) := by omega
        have HZ := Lib.hid (HS8.out.storeP (q := 0) (x := P.getD 0 [] ++ [120]) HL5.out.symm)
        have HSTR : Hid (str (P.getD 0 [] ++ [120]) = str (P.getD 0 []) ++ ByteArray.mk #[120]) := Lib.hid (by simp [str]; rfl)
        rw [HSTR.out] at HZ
        clear HSTR
        have hp40 : (P.getD 0 []).length ≤ 40 := HY6.out _ (getD_mem (by rw [← HL5.out]; omega))
        have hszp := str_size (P.getD 0 [])
        generalize P.getD 0 [] = px at *
        clear hvp hcellp hfzp
        obtain ⟨q0, q1, g0, g1⟩ := HZ.out.kept
        have u0 := HZ.out.s0
        have u1 := HZ.out.s1
        have HE := Lib.hid HZ.out.done
        go_wp2_with fail
        refine bodyPost_ret (v := .agg #[.slice A4 n4 e4, .slice (some ⟨gp, 0, none⟩) n5 e5]) (by simp [results, Tryd.results79, go_sem, q0, q1, g0, g1]) rfl ?_
        exact ⟨_, _, (_, _), _, _, _, rfl, HE.out.1, HE.out.2.1, HE.out.2.2.1, HLL.out, HE.out.2.2.2.1.more (by omega), HE.out.2.2.2.2⟩
    · have t0 := HS6.out.s0
      go_wp2_with fail
      refine (pick_any g cv _ (n4 : Int) _ HS6.out.cur (by omega)).mono ?_
      rintro e w7 ⟨kk, rfl, ka, kb, hc7, k7⟩
      have HS7 := Lib.hid (HS6.out.draw k7 hc7)
      obtain ⟨k, rfl⟩ := Int.eq_ofNat_of_zero_le ka
      have hkn : k < n4 := by
        unfold pickHi at kb
        split at kb <;> omega
      have hki : (k : Int) < (n4 : Int) := by omega
      obtain ⟨gd, cpd, hvd, hgd1, hgd2, hgd3, hgd4, hcelld, hfzd⟩ := HS7.out.data.shape (by rw [← HL4.out]; omega)
      rw [← HL4.out] at hvd
      obtain ⟨rfl, rfl⟩ : A4 = some ⟨gd, 0, none⟩ ∧ e4 = cpd := by simpa using hvd
      have hcd := hcelld k (by rw [← HL4.out]; exact hkn)
      have hfd := hfzd k
      have hx40 : (D.getD k []).length ≤ 40 := HY5.out _ (getD_mem (by rw [← HL4.out]; exact hkn))
      have hsz := str_size (D.getD k [])
      have hq0 := HS7.out.s0
      have hgg := HS7.out.hg
      have hRR := HS7.out.hRl
      have hSS := HS7.out.hhS
      have hWW := HS7.out.hSW
      generalize D.getD k [] = xx at *
      clear hvd hcelld hfzd t0 kb
      go_wp2_with fail
      have hS : (fun W : World => W.cell? ⟨w4.heap.size, 0, none⟩ = some (.slice (some ⟨gd, 0, none⟩) n4 e4) ∧ W.cell? ⟨gd, k, none⟩ = some (.string (str xx))) w7.drew := ⟨hq0, hcd⟩
      refine wp_region_tail (fun W : World => W.cell? ⟨w4.heap.size, 0, none⟩ = some (.slice (some ⟨gd, 0, none⟩) n4 e4) ∧ W.cell? ⟨gd, k, none⟩ = some (.string (str xx))) 12 (by kernel_rfl) ?_
      refine wpAnyT_take (i := 0) (oi := _) (v := ?va0) rfl (by kernel_rfl) (by kernel_rfl) (by kernel_rfl) (by kernel_rfl) (fun _ _ _ h => h) (Or.inl ⟨by rfl, ?hya0⟩) hS ?resta0
      case hya0 => (intro W hW; obtain ⟨e1, e2⟩ := hW; go_simp; try with_reducible rfl)
      simp only [Act.put, List.setIfInBounds_toArray, List.set_cons_zero, List.set_cons_succ]
      refine wpAnyT_take (i := 1) (oi := _) (v := ?va1) rfl (by kernel_rfl) (by kernel_rfl) (by kernel_rfl) (by kernel_rfl) (fun _ _ _ h => h) (Or.inl ⟨by rfl, ?hya1⟩) hS ?resta1
      case hya1 => (intro W hW; obtain ⟨e1, e2⟩ := hW; go_simp; try with_reducible rfl)
      simp only [Act.put, List.setIfInBounds_toArray, List.set_cons_zero, List.set_cons_succ]
      refine wpAnyT_take (i := 2) (oi := _) (v := ?va2) rfl (by kernel_rfl) (by kernel_rfl) (by kernel_rfl) (by kernel_rfl) (fun _ _ _ h => h) (Or.inl ⟨by rfl, ?hya2⟩) hS ?resta2
      case hya2 => (intro W hW; obtain ⟨e1, e2⟩ := hW; go_simp; try with_reducible rfl)
      simp only [Act.put, List.setIfInBounds_toArray, List.set_cons_zero, List.set_cons_succ]
      refine wpAnyT_take (i := 3) (oi := _) (v := ?va3) rfl (by kernel_rfl) (by kernel_rfl) (by kernel_rfl) (by kernel_rfl) (fun _ _ _ h => h) (Or.inl ⟨by rfl, ?hya3⟩) hS ?resta3
      case hya3 => (intro W hW; obtain ⟨e1, e2⟩ := hW; go_simp; try with_reducible rfl)
      simp only [Act.put, List.setIfInBounds_toArray, List.set_cons_zero, List.set_cons_succ]
      refine wpAnyT_take (i := 4) (oi := _) (v := ?va4) rfl (by kernel_rfl) (by kernel_rfl) (by kernel_rfl) (by kernel_rfl) (fun _ _ _ h => h) (Or.inl ⟨by rfl, ?hya4⟩) hS ?resta4
      case hya4 => (intro W hW; obtain ⟨e1, e2⟩ := hW; go_simp; try with_reducible rfl)
      simp only [Act.put, List.setIfInBounds_toArray, List.set_cons_zero, List.set_cons_succ]
      refine wpAnyT_take (i := 5) (oi := _) (v := ?va5) rfl (by kernel_rfl) (by kernel_rfl) (by kernel_rfl) (by kernel_rfl) (fun _ _ _ h => h) (Or.inl ⟨by rfl, ?hya5⟩) hS ?resta5
      case hya5 => (intro W hW; obtain ⟨e1, e2⟩ := hW; go_simp; try with_reducible rfl)
      simp only [Act.put, List.setIfInBounds_toArray, List.set_cons_zero, List.set_cons_succ]
      refine wpAnyT_take (i := 6) (oi := _) (v := ?va6) rfl (by kernel_rfl) (by kernel_rfl) (by kernel_rfl) (by kernel_rfl) (fun _ _ _ h => h) (Or.inl ⟨by rfl, ?hya6⟩) hS ?resta6
      case hya6 => (intro W hW; obtain ⟨e1, e2⟩ := hW; go_simp; try with_reducible rfl)
      simp only [Act.put, List.setIfInBounds_toArray, List.set_cons_zero, List.set_cons_succ]
      refine wpAnyT_take (i := 7) (oi := _) (v := ?va7) rfl (by kernel_rfl) (by kernel_rfl) (by kernel_rfl) (by kernel_rfl) (fun _ _ _ h => h) (Or.inl ⟨by rfl, ?hya7⟩) hS ?resta7
      case hya7 => (intro W hW; obtain ⟨e1, e2⟩ := hW; go_simp; try with_reducible rfl)
      simp only [Act.put, List.setIfInBounds_toArray, List.set_cons_zero, List.set_cons_succ]
      refine wpAnyT_take (i := 8) (oi := _) (v := ?va8) rfl (by kernel_rfl) (by kernel_rfl) (by kernel_rfl) (by kernel_rfl) (fun _ _ _ h => h) (Or.inl ⟨by rfl, ?hya8⟩) hS ?resta8
      case hya8 => (intro W hW; obtain ⟨e1, e2⟩ := hW; go_simp; try with_reducible rfl)
      simp only [Act.put, List.setIfInBounds_toArray, List.set_cons_zero, List.set_cons_succ]
      refine wpAnyT_take (i := 9) (oi := _) (v := ?va9) rfl (by kernel_rfl) (by kernel_rfl) (by kernel_rfl) (by kernel_rfl) (fun _ _ _ h => h) (Or.inl ⟨by rfl, ?hya9⟩) hS ?resta9
      case hya9 => (intro W hW; obtain ⟨e1, e2⟩ := hW; go_simp; try with_reducible rfl)
      simp only [Act.put, List.setIfInBounds_toArray, List.set_cons_zero, List.set_cons_succ]
      refine wpAnyT_one (i := 10) (o := _) rfl (by kernel_rfl) (fun K hK => ?_)
      go_simp
      refine (text_any g cv _ xx.length _ (show CurAt w7.drew g cv _ from hc7) (by omega)).mono ?_
      rintro e w8 ⟨tx, rfl, htx, hc8, k8'⟩
      have k8 := undrew k8'
      have s8 := k8.size
      have t0 := cell_keepT hq0 (by omega) k8 (by omega)
      have t1 := cell_keepT hcd (by omega) k8 (by omega)
      have t5 := frozen_keepT hfd (by omega) k8 (by omega)
      refine hK.out _ _ (fun _ => ⟨t0, t1⟩) ?_
      clear hK K hS
      try simp only [Act.put, List.setIfInBounds_toArray, List.set_cons_zero, List.set_cons_succ]
      refine wpAnyT_one (i := 11) (o := _) rfl (by kernel_rfl) (fun K hK => ?_)
      go_simp
      refine hK.out _ _ (fun _ => ⟨t0, t1⟩) ?_
      clear hK K
      try simp only [Act.put, List.setIfInBounds_toArray, List.set_cons_zero, List.set_cons_succ]
      refine wpAnyT_one (i := 12) (o := _) rfl (by kernel_rfl) (fun K hK => ?_)
      go_simp
      refine hK.out _ _ (fun h => absurd rfl h) ?_
      clear hK K
      try simp only [Act.put, List.setIfInBounds_toArray, List.set_cons_zero, List.set_cons_succ]
      refine wpAnyT_done (by kernel_rfl) ?_ _
      have HS := Lib.hid ((HS7.out.draw k8 hc8).storeD (q := k) (x := tx) HL4.out.symm)
      have HLL : Hid ((D.set k tx).length ≤ 16 ∧ ∀ r ∈ D.set k tx, r.length ≤ 40) := Lib.hid ⟨by rw [List.length_set, ← HL4.out]; omega, fun r hr => by
        rcases List.mem_or_eq_of_mem_set hr with h | rfl
        · exact HY5.out _ h
        · rw [htx]; exact hx40⟩
      clear t0 t1 t5 k8 k8' hcd hfd hq0
      have v0 := HS.out.s0
      have v1 := HS.out.s1
      go_wp2_with fail
      refine (one_any g cv _ 30 _ HS.out.cur (by omega)).mono ?_
      rintro e w9 ⟨b9, rfl, hc9, k9⟩
      have HS8 := Lib.hid (HS.out.draw k9 hc9)
      clear v0 v1
      cases b9
      · have HZ := HS8
        obtain ⟨q0, q1, g0, g1⟩ := HZ.out.kept
        have u0 := HZ.out.s0
        have u1 := HZ.out.s1
        have HE := Lib.hid HZ.out.done
        go_wp2_with fail
        refine bodyPost_ret (v := .agg #[.slice (some ⟨gd, 0, none⟩) n4 e4, .slice A5 n5 e5]) (by simp [results, Tryd.results79, go_sem, q0, q1, g0, g1]) rfl ?_
        exact ⟨_, _, (_, _), _, _, _, rfl, HE.out.1, HE.out.2.1, HE.out.2.2.1, HLL.out, HE.out.2.2.2.1.more (by omega), HE.out.2.2.2.2⟩
      · obtain ⟨gp, cpp, hvp, hgp1, hgp2, hgp3, hgp4, hcellp, hfzp⟩ := HS8.out.par.shape (by rw [← HL5.out]; omega)
        rw [← HL5.out] at hvp
        obtain ⟨rfl, rfl⟩ : A5 = some ⟨gp, 0, none⟩ ∧ e5 = cpp := by simpa using hvp
        have hcp0 := hcellp 0 (by rw [← HL5.out]; omega)
        have hfp0 := hfzp 0
        have x0 := HS8.out.s0
        have x1 := HS8.out.s1
        have hp0 : (0 : Int) < (n5 : Int) := by omega
        have HZ := Lib.hid (HS8.out.storeP (q := 0) (x := P.getD 0 [] ++ [120]) HL5.out.symm)
        have HSTR : Hid (str (P.getD 0 [] ++ [120]) = str (P.getD 0 []) ++ ByteArray.mk #[120]) := Lib.hid (by simp [str]; rfl)
        rw [HSTR.out] at HZ
        clear HSTR
        have hp40 : (P.getD 0 []).length ≤ 40 := HY6.out _ (getD_mem (by rw [← HL5.out]; omega))
        have hszp := str_size (P.getD 0 [])
        generalize P.getD 0 [] = px at *
        clear hvp hcellp hfzp
        obtain ⟨q0, q1, g0, g1⟩ := HZ.out.kept
        have u0 := HZ.out.s0
        have u1 := HZ.out.s1
        have HE := Lib.hid HZ.out.done
        go_wp2_with fail
        refine bodyPost_ret (v := .agg #[.slice (some ⟨gd, 0, none⟩) n4 e4, .slice (some ⟨gp, 0, none⟩) n5 e5]) (by simp [results, Tryd.results79, go_sem, q0, q1, g0, g1]) rfl ?_
        exact ⟨_, _, (_, _), _, _, _, rfl, HE.out.1, HE.out.2.1, HE.out.2.2.1, HLL.out, HE.out.2.2.2.1.more (by omega), HE.out.2.2.2.2⟩

end Go.Proofs.YtjgmegfbfjmnfaaDoor

/- The draws of a stripe. -/
namespace Go.Proofs.YtjgmegfbfjmnfaaDoor
open Go.RowKit G294
theorem own_farT {w w' : World} {lo a b n size : Nat} {E : TypeId} {v : Value} {xs : List Value} (h : w.ownsRow lo E size v n xs) (t : TurnIn a b w w') (d : b ≤ lo) : w'.ownsRow lo E size v n xs := by
  refine ⟨h.1, ?_⟩
  rcases h.2 with hn | ⟨g, cap, cur, rfl, hbg, hg, rest⟩
  · exact .inl hn
  · refine .inr ⟨g, cap, cur, rfl, hbg, ?_, rest⟩
    rw [t.block g (Array.getElem?_eq_some_iff.1 hg).1 (by omega)]
    exact hg
theorem keptR_turn {W W' : World} {R a b : Nat} (h : KeptR W R) (hl : R < W.heap.size) (t : TurnIn a b W W') (d : R < a ∨ b ≤ R) : KeptR W' R := ⟨cell_keepT h.r0 hl t d, cell_keepT h.r1 hl t d, frozen_keepT h.f0 hl t d, frozen_keepT h.f1 hl t d⟩
def RetTI (w : World) (e : Ending) (w' : World) : Prop := ∃ (x y u : Value) (t : Strp) (l : List Int), e = .returned (.tuple #[.agg #[x, y], u]) ∧ Seen w' x (strs t.1) ∧ Seen w' y (strs t.2) ∧ Seen w' u (ints l) ∧ TurnIn 0 0 w w'
def RetTIS (w : World) (e : Ending) (w' : World) : Prop := ∃ (x y : Value) (t : Strp) (i : Int) (r : List UInt8), e = .returned (.tuple #[.agg #[x, y], .int .i64 i, .string (str r)]) ∧ Seen w' x (strs t.1) ∧ Seen w' y (strs t.2) ∧ (-1 ≤ i ∧ i ≤ 17 ∧ r.length ≤ 40) ∧ TurnIn 0 0 w w'

end Go.Proofs.YtjgmegfbfjmnfaaDoor

/- The cursor's twins, the draw of stripes to merge. -/
namespace Go.Proofs.YtjgmegfbfjmnfaaDoor
open Go.RowKit G294
def DrawsTw (w : World) (g : Nat) (cv : Value) (m : Nat) (e : Ending) (w' : World) : Prop := ∃ (x y x2 y2 : Value) (s t : Strp) (lo mid hi lo2 mid2 hi2 : Nat), e = .returned (.tuple #[.agg #[x, y], .agg #[x2, y2]]) ∧ OwnStrs 9 w' lo mid x s.1 ∧ OwnStrs 9 w' mid hi y s.2 ∧ OwnStrs 9 w' lo2 mid2 x2 t.1 ∧ OwnStrs 9 w' mid2 hi2 y2 t.2 ∧ (w.heap.size ≤ lo ∧ lo ≤ mid ∧ mid ≤ hi ∧ w.heap.size ≤ lo2 ∧ lo2 ≤ mid2 ∧ mid2 ≤ hi2) ∧ CurAt w' g cv m ∧ TurnIn g (g + 1) w w'
def RetTw (w : World) (e : Ending) (w' : World) : Prop := ∃ (x y x2 y2 : Value) (s t : Strp), e = .returned (.tuple #[.agg #[x, y], .agg #[x2, y2]]) ∧ Seen w' x (strs s.1) ∧ Seen w' y (strs s.2) ∧ Seen w' x2 (strs t.1) ∧ Seen w' y2 (strs t.2) ∧ TurnIn 0 0 w w'
/-- four stores into the two boxes of results -/
def put4 (W : World) (R : Nat) (a b c d : Value) : World := (((W.setCell ⟨R, 0, none⟩ a).setCell ⟨R, 1, none⟩ b).setCell ⟨R + 1, 0, none⟩ c).setCell ⟨R + 1, 1, none⟩ d
theorem put4_turn (W : World) (R : Nat) (a b c d : Value) : TurnIn R (R + 2) W (put4 W R a b c d) := by
  have k0 := turn_setCell W R 0 a
  have k1 := turn_setCell (W.setCell ⟨R, 0, none⟩ a) R 1 b
  have k2 := turn_setCell ((W.setCell ⟨R, 0, none⟩ a).setCell ⟨R, 1, none⟩ b) (R + 1) 0 c
  have k3 := turn_setCell (((W.setCell ⟨R, 0, none⟩ a).setCell ⟨R, 1, none⟩ b).setCell ⟨R + 1, 0, none⟩ c) (R + 1) 1 d
  have h0 : TurnIn R (R + 2) W (W.setCell ⟨R, 0, none⟩ a) := ⟨k0.os, k0.tape, k0.output, k0.size, fun k hk hd => k0.block k hk (by omega)⟩
  exact turn_trans (turn_trans (turn_trans h0 k1 (by omega)) k2 (by omega)) k3 (by omega)
theorem put4_cells {W : World} {R : Nat} (a b c d : Value) (h1 : KeptR W R) (h2 : KeptR W (R + 1)) :
    (put4 W R a b c d).cell? ⟨R, 0, none⟩ = some a ∧ (put4 W R a b c d).cell? ⟨R, 1, none⟩ = some b ∧ (put4 W R a b c d).cell? ⟨R + 1, 0, none⟩ = some c ∧ (put4 W R a b c d).cell? ⟨R + 1, 1, none⟩ = some d := by
  have o1 : ∀ (X : World) (v u : Value), ((X.setCell ⟨R + 1, 0, none⟩ v).setCell ⟨R + 1, 1, none⟩ u).cell? ⟨R, 0, none⟩ = X.cell? ⟨R, 0, none⟩ := fun X v u => (cell_set_other _ _ _ _ (by omega)).trans (cell_set_other _ _ _ _ (by omega))
  have o2 : ∀ (X : World) (v u : Value), ((X.setCell ⟨R + 1, 0, none⟩ v).setCell ⟨R + 1, 1, none⟩ u).cell? ⟨R, 1, none⟩ = X.cell? ⟨R, 1, none⟩ := fun X v u => (cell_set_other _ _ _ _ (by omega)).trans (cell_set_other _ _ _ _ (by omega))
  have t : ∀ (X : World) (B : Nat) (v u p q : Value), X.cell? ⟨B, 0, none⟩ = some p → X.cell? ⟨B, 1, none⟩ = some q → ((X.setCell ⟨B, 0, none⟩ v).setCell ⟨B, 1, none⟩ u).cell? ⟨B, 0, none⟩ = some v ∧ ((X.setCell ⟨B, 0, none⟩ v).setCell ⟨B, 1, none⟩ u).cell? ⟨B, 1, none⟩ = some u := fun X B v u p q hp hq => by
    have y1 : (X.setCell ⟨B, 0, none⟩ v).cell? ⟨B, 1, none⟩ = some q := (World.cell?_setCell_other _ _ _ _ (by simp)).trans hq
    exact ⟨(World.cell?_setCell_other _ _ _ _ (by simp)).trans (World.cell?_setCell_same _ _ _ hp), World.cell?_setCell_same _ _ _ y1⟩
  have h3 : ((W.setCell ⟨R, 0, none⟩ a).setCell ⟨R, 1, none⟩ b).cell? ⟨R + 1, 0, none⟩ = some (.slice none 0 0) := ((cell_set_other _ _ _ _ (by omega)).trans (cell_set_other _ _ _ _ (by omega))).trans h2.r0
  have h4 : ((W.setCell ⟨R, 0, none⟩ a).setCell ⟨R, 1, none⟩ b).cell? ⟨R + 1, 1, none⟩ = some (.slice none 0 0) := ((cell_set_other _ _ _ _ (by omega)).trans (cell_set_other _ _ _ _ (by omega))).trans h2.r1
  exact ⟨(o1 _ c d).trans (t W R a b _ _ h1.r0 h1.r1).1, (o2 _ c d).trans (t W R a b _ _ h1.r0 h1.r1).2, (t _ (R + 1) c d _ _ h3 h4).1, (t _ (R + 1) c d _ _ h3 h4).2⟩
theorem kept_put2 {W : World} {R : Nat} (a b : Value) (h2 : KeptR W (R + 1)) : KeptR ((W.setCell ⟨R, 0, none⟩ a).setCell ⟨R, 1, none⟩ b) (R + 1) := (h2.set (by omega)).set (by omega)

set_option maxRecDepth 100000 in
set_option maxHeartbeats 8000000 in
theorem twins_any (g : Nat) (cv : Value) (m : Nat) (w : World) (hc : CurAt w g cv m) (hm : m ≤ 100000) :
    Calls Tryd.prog 33 #[.pointer (some ⟨g, 0, none⟩)] w (DrawsTw w g cv (m + 8000)) := by
  have hgw := hc.lt
  have a0 := turn_alloc w (.cells #[.slice none 0 0, .slice none 0 0] 25)
  have z0 : (w.alloc (.cells #[.slice none 0 0, .slice none 0 0] 25)).heap.size = w.heap.size + 1 := World.size_alloc _ _
  have hK2 : KeptR (w.alloc (.cells #[.slice none 0 0, .slice none 0 0] 25)) w.heap.size := ⟨alloc_duo0 _ _ _ _, alloc_duo1 _ _ _ _, alloc_frz _ _ _ _, alloc_frz _ _ _ _⟩
  have a1 := turn_alloc (w.alloc (.cells #[.slice none 0 0, .slice none 0 0] 25)) (.cells #[.slice none 0 0, .slice none 0 0] 25)
  have z1 : ((w.alloc (.cells #[.slice none 0 0, .slice none 0 0] 25)).alloc (.cells #[.slice none 0 0, .slice none 0 0] 25)).heap.size = w.heap.size + 2 := by rw [World.size_alloc, World.size_alloc]
  have hK3 : KeptR ((w.alloc (.cells #[.slice none 0 0, .slice none 0 0] 25)).alloc (.cells #[.slice none 0 0, .slice none 0 0] 25)) (w.heap.size + 1) := by
    have h : KeptR ((w.alloc (.cells #[.slice none 0 0, .slice none 0 0] 25)).alloc (.cells #[.slice none 0 0, .slice none 0 0] 25)) (w.alloc (.cells #[.slice none 0 0, .slice none 0 0] 25)).heap.size := ⟨alloc_duo0 _ _ _ _, alloc_duo1 _ _ _ _, alloc_frz _ _ _ _, alloc_frz _ _ _ _⟩
    rwa [World.size_alloc] at h
  have hc0 := (hc.keep a0 (by omega)).keep a1 (by omega)
  have HK2 := Lib.hid (hK2.turn a1 (by omega))
  have HK3 := Lib.hid hK3
  have k01 := turn_trans a0 a1 (by omega)
  clear hK2 hK3 a0 a1 z0
  go_enter Tryd.func33, Tryd.ntmps33
  go_wp2_with fail
  refine (stripe_any g cv m _ hc0 (by omega)).mono ?_
  generalize ((w.alloc (.cells #[.slice none 0 0, .slice none 0 0] 25)).alloc (.cells #[.slice none 0 0, .slice none 0 0] 25)) = w0 at *
  rintro e w1 ⟨x, y, t, lo, mid, hi, rfl, oD, oP, ⟨hb1, hb2, hb3, hb4⟩, hT, hc1, k1⟩
  obtain ⟨A1, c1, hx1⟩ := oD.seen.len
  obtain ⟨B1, d1, hy1⟩ := oP.seen.len
  rw [strs_length] at hx1 hy1
  subst hx1 hy1
  have HT := Lib.hid hT
  have s1 := k1.size
  have HK2b := Lib.hid (keptR_turn HK2.out (by omega) k1 (by omega))
  have HK3b := Lib.hid (keptR_turn HK3.out (by omega) k1 (by omega))
  have kG : TurnIn g (g + 1) w w0 := ⟨k01.os, k01.tape, k01.output, k01.size, fun k hk _ => k01.block k hk (by omega)⟩
  have kk := turn_trans kG k1 (by omega)
  generalize hn1 : t.1.length = n1 at *
  generalize hn2 : t.2.length = n2 at *
  have HN1 := Lib.hid hn1
  have HN2 := Lib.hid hn2
  clear hn1 hn2
  have a2 := turn_alloc w1 (.cells #[.slice A1 n1 c1, .slice B1 n2 d1] 25)
  have z2 := World.size_alloc w1 (.cells #[.slice A1 n1 c1, .slice B1 n2 d1] 25)
  have HS : Hid (StrSt w (w1.alloc (.cells #[.slice A1 n1 c1, .slice B1 n2 d1] 25)) g w.heap.size w1.heap.size lo mid hi (m + 2000) cv (.slice A1 n1 c1) (.slice B1 n2 d1) t.1 t.2) := Lib.hid ⟨hc1.keep a2 (by omega), HK2b.out.turn a2 (by omega), alloc_duo0 _ _ _ _, alloc_duo1 _ _ _ _, oD.keep a2 (by omega), oP.keep a2 (by omega), hgw, Nat.le_refl _, by omega, hb2, hb3, hb4, by omega, turn_trans kk a2 (by omega)⟩
  have HKc := Lib.hid (HK3b.out.turn a2 (by omega))
  have t0 := HS.out.s0
  have t1 := HS.out.s1
  have hlo : w.heap.size + 2 ≤ lo := by omega
  have hS2 : w.heap.size + 2 ≤ w1.heap.size := by omega
  clear oD oP hT hc1 kG kk a2 HK2 HK3 HK2b HK3b k01 k1 hc0 z1
  go_wp2_with fail
  generalize (w1.alloc (.cells #[.slice A1 n1 c1, .slice B1 n2 d1] 25)) = w2 at *
  generalize w1.heap.size = S at *
  refine (sGoodStripe_any _ _ t _ HS.out.data.seen HS.out.par.seen).mono ?_
  rintro e w3 ⟨rfl, k3⟩
  have hS2w := HS.out.hSW
  have s3 := k3.size
  have HS3 := Lib.hid (HS.out.draw ⟨k3.os, k3.tape, k3.output, k3.size, fun k hk _ => k3.block k hk (by omega)⟩ (HS.out.cur.keep k3 (by omega)))
  have HK3 := Lib.hid (HKc.out.turn k3 (by omega))
  clear HS HKc k3 t0 t1 z2
  by_cases hok : strpOk t = true
  · obtain ⟨⟨hp1, hp2⟩, ⟨hp3, hp4⟩, _⟩ := strpOk_b hok
    rw [hok]
    rw [HN1.out] at hp1 hp2
    rw [HN2.out] at hp3 hp4
    clear hok
    go_wp2_with fail
    refine (one_any g cv _ 8 _ HS3.out.cur (by omega)).mono ?_
    rintro e w4 ⟨b4, rfl, hc4, k4⟩
    have s4 := k4.size
    have HS4 := Lib.hid (HS3.out.draw k4 hc4)
    have HK4 := Lib.hid (keptR_turn HK3.out (by omega) k4 (by omega))
    clear k4 hc4 HS3 HK3
    cases b4
    · have t0 := HS4.out.s0
      go_wp2_with fail
      refine (one_any g cv _ 3 _ HS4.out.cur (by omega)).mono ?_
      rintro e w5 ⟨b5, rfl, hc5, k5⟩
      have s5 := k5.size
      have HS5 := Lib.hid (HS4.out.draw k5 hc5)
      have HK5 := Lib.hid (keptR_turn HK4.out (by omega) k5 (by omega))
      clear k5 hc5 HS4 HK4 t0
      cases b5
      · have HSs := HS5
        have HKs := HK5
        clear HS5 HK5
        generalize w5 = ws at *
        have hS0 := HSs.out.hSW
        have hgs := HSs.out.cur.lt
        have t0 := HSs.out.s0
        go_wp2_with fail
        clear t0
        go_loopw [5, 6] (fun o y wr => ∃ (j : Nat) (T : List (List UInt8)), j ≤ 20 ∧ y = .int .i64 j ∧ T.length + j ≤ 20 ∧ wr.ownsRow ws.heap.size 9 1 o T.length (strs T) ∧ CurAt wr g cv (m + 3000 + 200 * T.length) ∧ TurnIn g (g + 1) ws wr) (fun _ y _ => (intOf y).toNat)
        case atStart => exact ⟨n1, [], by omega, rfl, by simp <;> omega, World.ownsRow_nil _ _ _ _, HSs.out.cur.more (by simp <;> omega), ⟨rfl, rfl, rfl, Nat.le_refl _, fun _ _ _ => rfl⟩⟩
        case round =>
          obtain ⟨j, T, hj, rfl, hTj, hown, hcr, kr⟩ := hrel
          have hsr := kr.size
          have HSr := Lib.hid (HSs.out.draw kr hcr)
          have HKr := Lib.hid (keptR_turn HKs.out (by omega) kr (by omega))
          have hSr := HSr.out.hSW
          have t0 := HSr.out.s0
          have t1 := HSr.out.s1
          by_cases hlt : 0 < j
          · have hji : (0 : Int) < (j : Int) := by omega
            obtain ⟨gd, cpd, hvd, hgd1, hgd2, hgd3, hgd4, hcelld, hfzd⟩ := HSr.out.data.shape (by rw [HN1.out]; omega)
            rw [HN1.out] at hvd
            obtain ⟨rfl, rfl⟩ : A1 = some ⟨gd, 0, none⟩ ∧ c1 = cpd := by simpa using hvd
            have hcd := hcelld 0 (by rw [HN1.out]; omega)
            have hx40 : (t.1.getD 0 []).length ≤ 40 := HT.out.2 _ (getD_mem (by rw [HN1.out]; omega))
            have hsz := str_size (t.1.getD 0 [])
            have hn10 : (0 : Int) < (n1 : Int) := by omega
            generalize t.1.getD 0 [] = xx at *
            clear hvd hcelld hfzd
            go_wp2_with fail
            refine (text_any g cv _ xx.length _ hcr (by omega)).mono ?_
            rintro e w7 ⟨tx, rfl, htx, hc7, k7⟩
            have s7 := k7.size
            have hown7 := own_farT hown k7 (by omega)
            clear htx hown
            go_wp2_with (at_builtin; refine wpList_append1 rfl _ _ _ rfl ws.heap.size 9 _ _ Tryd.underlying23 infoStr3 rfl _ T.length _ rfl (hown7.alloc _) w7.heap.size (.string (str tx)) rfl ?c1 rfl ?c2 ?c3 ?c4 ?_)
            case c1 => simp
            case c2 => omega
            case c3 => omega
            case c4 => simp; omega
            intro v' w8 hown8 hg8 _
            have ka := turn_alloc w7 (.cells #[.string (str tx)] 9)
            have ko := turn_own (hown7.alloc (.cells #[.string (str tx)] 9)) hg8
            have sA := ka.size
            have hc8 := (hc7.keep ka (by omega)).keep ko (by omega)
            have k8 := turn_trans (turn_trans (turn_trans kr k7 (by omega)) ka (by omega)) ko (by omega)
            have hl9 : (T ++ [tx]).length = T.length + 1 := by rw [List.length_append]; rfl
            have hown9 : w8.ownsRow ws.heap.size 9 1 v' (T ++ [tx]).length (strs (T ++ [tx])) := by rw [strs_append, List.length_append]; exact hown8
            clear hown8 hg8 hown7 ka ko hc7 k7 t0 t1 hcd
            go_wp2_with fail
            go_roundw
            case rel => exact ⟨j - 1, T ++ [tx], by omega, by go_num, by omega, hown9, hc8.more (by omega), k8⟩
            case measure => simp [intOf]; omega
          · obtain rfl : j = 0 := by omega
            have hji : ¬ (0 : Int) < ((0 : Nat) : Int) := by omega
            have HO := Lib.hid (Seen.of_own hown)
            have HMK := Lib.hid (sMakeStripe_own _ T (n2 : Int) wr HO.out)
            clear hown
            go_wp2_with fail
            refine HMK.out.mono ?_
            rintro e w9 ⟨x9, y9, rfl, hO9, k9⟩
            obtain ⟨A3, n3, c3, A4, n4, c4, rfl, rfl⟩ := hO9.isSlice
            obtain ⟨mid2, hm1, hm2, oD2, oP2⟩ := hO9
            have s9 := k9.size
            have a10 := turn_alloc w9 (.cells #[.slice A3 n3 c3, .slice A4 n4 c4] 25)
            have z10 := World.size_alloc w9 (.cells #[.slice A3 n3 c3, .slice A4 n4 c4] 25)
            have k10 := turn_trans k9 a10 (by omega)
            have v0 := alloc_duo0 w9 (.slice A3 n3 c3) (.slice A4 n4 c4) 25
            have v1 := alloc_duo1 w9 (.slice A3 n3 c3) (.slice A4 n4 c4) 25
            have k10g : TurnIn g (g + 1) wr (w9.alloc (.cells #[.slice A3 n3 c3, .slice A4 n4 c4] 25)) := ⟨k10.os, k10.tape, k10.output, k10.size, fun k hk _ => k10.block k hk (by omega)⟩
            have HSx := Lib.hid (HSr.out.draw k10g (hcr.keep k10 (by omega)))
            have HKx := Lib.hid (keptR_turn HKr.out (by omega) k10g (by omega))
            have OD2 := Lib.hid (oD2.keep a10 (by omega))
            have OP2 := Lib.hid (oP2.keep a10 (by omega))
            clear oD2 oP2 a10 k10 k10g k9 t0 t1 hcr kr HSr HKr
            have t0 := HSx.out.s0
            have t1 := HSx.out.s1
            go_wp2_with fail
            generalize (w9.alloc (.cells #[.slice A3 n3 c3, .slice A4 n4 c4] 25)) = wx at *
            have hdr : TurnIn g (g + 1) wx wx.drew := ⟨rfl, rfl, rfl, Nat.le_refl _, fun _ _ _ => rfl⟩
            have HSZ := Lib.hid (HSx.out.draw hdr (HSx.out.cur.keep (a := 0) (b := 0) ⟨rfl, rfl, rfl, Nat.le_refl _, fun _ _ _ => rfl⟩ (by omega)))
            have HKZ : Hid (KeptR wx.drew (w.heap.size + 1)) := Lib.hid ⟨HKx.out.r0, HKx.out.r1, HKx.out.f0, HKx.out.f1⟩
            have OD3 := Lib.hid (OD2.out.keep (a := 0) (b := 0) (w' := wx.drew) ⟨rfl, rfl, rfl, Nat.le_refl _, fun _ _ _ => rfl⟩ (by omega))
            have OP3 := Lib.hid (OP2.out.keep (a := 0) (b := 0) (w' := wx.drew) ⟨rfl, rfl, rfl, Nat.le_refl _, fun _ _ _ => rfl⟩ (by omega))
            clear hdr
            have hS : (fun W : World => W.cell? ⟨S, 0, none⟩ = some (.slice A1 n1 c1) ∧ W.cell? ⟨S, 1, none⟩ = some (.slice B1 n2 d1) ∧ W.cell? ⟨w9.heap.size, 0, none⟩ = some (.slice A3 n3 c3) ∧ W.cell? ⟨w9.heap.size, 1, none⟩ = some (.slice A4 n4 c4)) wx.drew := ⟨t0, t1, v0, v1⟩
            refine wp_region_tail (fun W : World => W.cell? ⟨S, 0, none⟩ = some (.slice A1 n1 c1) ∧ W.cell? ⟨S, 1, none⟩ = some (.slice B1 n2 d1) ∧ W.cell? ⟨w9.heap.size, 0, none⟩ = some (.slice A3 n3 c3) ∧ W.cell? ⟨w9.heap.size, 1, none⟩ = some (.slice A4 n4 c4)) 3 (by kernel_rfl) ?_
            refine wpAnyT_take (i := 0) (oi := _) (v := ?vz0) rfl (by kernel_rfl) (by kernel_rfl) (by kernel_rfl) (by kernel_rfl) (fun _ _ _ h => h) (Or.inl ⟨by rfl, ?hyz0⟩) hS ?restz0
            case hyz0 => (intro W hW; obtain ⟨e1, e2, e3, e4⟩ := hW; go_simp; try with_reducible rfl)
            simp only [Act.put, List.setIfInBounds_toArray, List.set_cons_zero, List.set_cons_succ]
            refine wpAnyT_take (i := 1) (oi := _) (v := ?vz1) rfl (by kernel_rfl) (by kernel_rfl) (by kernel_rfl) (by kernel_rfl) (fun _ _ _ h => h) (Or.inl ⟨by rfl, ?hyz1⟩) hS ?restz1
            case hyz1 => (intro W hW; obtain ⟨e1, e2, e3, e4⟩ := hW; go_simp; try with_reducible rfl)
            simp only [Act.put, List.setIfInBounds_toArray, List.set_cons_zero, List.set_cons_succ]
            have u0 : wx.drew.cell? ⟨S, 0, none⟩ = some (.slice A1 n1 c1) := t0
            have u1 : wx.drew.cell? ⟨S, 1, none⟩ = some (.slice B1 n2 d1) := t1
            have u2 : wx.drew.cell? ⟨w9.heap.size, 0, none⟩ = some (.slice A3 n3 c3) := v0
            have u3 : wx.drew.cell? ⟨w9.heap.size, 1, none⟩ = some (.slice A4 n4 c4) := v1
            clear hS t0 t1 v0 v1
            generalize wx.drew = wy at *
            obtain ⟨q0, q1, g0, g1⟩ := HSZ.out.kept
            obtain ⟨q2, q3, g2, g3⟩ := kept_put2 (.slice A1 n1 c1) (.slice B1 n2 d1) HKZ.out
            have hP4 := put4_cells (.slice A1 n1 c1) (.slice B1 n2 d1) (.slice A3 n3 c3) (.slice A4 n4 c4) HSZ.out.kept HKZ.out
            have HE : Hid (DrawsTw w g cv (m + 8000) (.returned (.tuple #[.agg #[.slice A1 n1 c1, .slice B1 n2 d1], .agg #[.slice A3 n3 c3, .slice A4 n4 c4]])) (put4 (wy) w.heap.size (.slice A1 n1 c1) (.slice B1 n2 d1) (.slice A3 n3 c3) (.slice A4 n4 c4))) :=
              Lib.hid (by
                have kP4 := put4_turn (wy) w.heap.size (.slice A1 n1 c1) (.slice B1 n2 d1) (.slice A3 n3 c3) (.slice A4 n4 c4)
                have a2 := HSZ.out.hlm
                have a3 := HSZ.out.hmh
                have aw := HSZ.out.hSW
                have a1 := HSZ.out.hhS
                exact ⟨_, _, _, _, t, (mkR T (n2 : Int)), lo, mid, hi, wr.heap.size, mid2, w9.heap.size, rfl, HSZ.out.data.keep kP4 (by omega), HSZ.out.par.keep kP4 (by omega), OD3.out.keep kP4 (by omega), OP3.out.keep kP4 (by omega), (by omega), (HSZ.out.cur.keep kP4 (by omega)).more (by omega), turn_trans HSZ.out.turn kP4 (by omega)⟩)
            unfold put4 at hP4 HE
            obtain ⟨p0, p1, p2, p3⟩ := hP4
            try simp only [Act.put, List.setIfInBounds_toArray, List.set_cons_zero, List.set_cons_succ]
            refine wpAnyT_one (i := 2) (o := _) rfl (by kernel_rfl) (fun K hK => ?_)
            go_simp
            refine hK.out _ _ (fun _ => ⟨(cell_set_other _ _ _ _ (by omega)).trans ((cell_set_other _ _ _ _ (by omega)).trans u0), (cell_set_other _ _ _ _ (by omega)).trans ((cell_set_other _ _ _ _ (by omega)).trans u1), (cell_set_other _ _ _ _ (by omega)).trans ((cell_set_other _ _ _ _ (by omega)).trans u2), (cell_set_other _ _ _ _ (by omega)).trans ((cell_set_other _ _ _ _ (by omega)).trans u3)⟩) ?_
            clear hK K
            try simp only [Act.put, List.setIfInBounds_toArray, List.set_cons_zero, List.set_cons_succ]
            refine wpAnyT_one (i := 3) (o := _) rfl (by kernel_rfl) (fun K hK => ?_)
            go_simp
            refine hK.out _ _ (fun h => absurd rfl h) ?_
            clear hK K
            try simp only [Act.put, List.setIfInBounds_toArray, List.set_cons_zero, List.set_cons_succ]
            refine wpAnyT_done (by kernel_rfl) ?_ _
            clear q0 q1 g0 g1 q2 q3 g2 g3
            go_wp2_with fail
            refine bodyPost_ret (v := .tuple #[.agg #[.slice A1 n1 c1, .slice B1 n2 d1], .agg #[.slice A3 n3 c3, .slice A4 n4 c4]]) (by simp [results, Tryd.results33, go_sem, p0, p1, p2, p3]) rfl ?_
            exact HE.out
      · go_wp2_with fail
        refine (pick_any g cv _ 4 _ HS5.out.cur (by omega)).mono ?_
        rintro e ws ⟨r, rfl, ra, rb, hc6, k6⟩
        have hr : r ≤ 3 := by simpa [pickHi] using rb
        obtain ⟨rn, rfl⟩ := Int.eq_ofNat_of_zero_le ra
        have s6 := k6.size
        have HSs := Lib.hid (HS5.out.draw k6 hc6)
        have HKs := Lib.hid (keptR_turn HK5.out (by omega) k6 (by omega))
        clear k6 hc6 HS5 HK5 ra rb
        have hS0 := HSs.out.hSW
        have hgs := HSs.out.cur.lt
        have t0 := HSs.out.s0
        go_wp2_with fail
        clear t0
        go_loopw [5, 6] (fun o y wr => ∃ (j : Nat) (T : List (List UInt8)), j ≤ 20 ∧ y = .int .i64 j ∧ T.length + j ≤ 20 ∧ wr.ownsRow ws.heap.size 9 1 o T.length (strs T) ∧ CurAt wr g cv (m + 3000 + 200 * T.length) ∧ TurnIn g (g + 1) ws wr) (fun _ y _ => (intOf y).toNat)
        case atStart => exact ⟨1 + rn, [], by omega, by first | rfl | (congr 1; omega), by simp <;> omega, World.ownsRow_nil _ _ _ _, HSs.out.cur.more (by simp <;> omega), ⟨rfl, rfl, rfl, Nat.le_refl _, fun _ _ _ => rfl⟩⟩
        case round =>
          obtain ⟨j, T, hj, rfl, hTj, hown, hcr, kr⟩ := hrel
          have hsr := kr.size
          have HSr := Lib.hid (HSs.out.draw kr hcr)
          have HKr := Lib.hid (keptR_turn HKs.out (by omega) kr (by omega))
          have hSr := HSr.out.hSW
          have t0 := HSr.out.s0
          have t1 := HSr.out.s1
          by_cases hlt : 0 < j
          · have hji : (0 : Int) < (j : Int) := by omega
            obtain ⟨gd, cpd, hvd, hgd1, hgd2, hgd3, hgd4, hcelld, hfzd⟩ := HSr.out.data.shape (by rw [HN1.out]; omega)
            rw [HN1.out] at hvd
            obtain ⟨rfl, rfl⟩ : A1 = some ⟨gd, 0, none⟩ ∧ c1 = cpd := by simpa using hvd
            have hcd := hcelld 0 (by rw [HN1.out]; omega)
            have hx40 : (t.1.getD 0 []).length ≤ 40 := HT.out.2 _ (getD_mem (by rw [HN1.out]; omega))
            have hsz := str_size (t.1.getD 0 [])
            have hn10 : (0 : Int) < (n1 : Int) := by omega
            generalize t.1.getD 0 [] = xx at *
            clear hvd hcelld hfzd
            go_wp2_with fail
            refine (text_any g cv _ xx.length _ hcr (by omega)).mono ?_
            rintro e w7 ⟨tx, rfl, htx, hc7, k7⟩
            have s7 := k7.size
            have hown7 := own_farT hown k7 (by omega)
            clear htx hown
            go_wp2_with (at_builtin; refine wpList_append1 rfl _ _ _ rfl ws.heap.size 9 _ _ Tryd.underlying23 infoStr3 rfl _ T.length _ rfl (hown7.alloc _) w7.heap.size (.string (str tx)) rfl ?c1 rfl ?c2 ?c3 ?c4 ?_)
            case c1 => simp
            case c2 => omega
            case c3 => omega
            case c4 => simp; omega
            intro v' w8 hown8 hg8 _
            have ka := turn_alloc w7 (.cells #[.string (str tx)] 9)
            have ko := turn_own (hown7.alloc (.cells #[.string (str tx)] 9)) hg8
            have sA := ka.size
            have hc8 := (hc7.keep ka (by omega)).keep ko (by omega)
            have k8 := turn_trans (turn_trans (turn_trans kr k7 (by omega)) ka (by omega)) ko (by omega)
            have hl9 : (T ++ [tx]).length = T.length + 1 := by rw [List.length_append]; rfl
            have hown9 : w8.ownsRow ws.heap.size 9 1 v' (T ++ [tx]).length (strs (T ++ [tx])) := by rw [strs_append, List.length_append]; exact hown8
            clear hown8 hg8 hown7 ka ko hc7 k7 t0 t1 hcd
            go_wp2_with fail
            go_roundw
            case rel => exact ⟨j - 1, T ++ [tx], by omega, by go_num, by omega, hown9, hc8.more (by omega), k8⟩
            case measure => simp [intOf]; omega
          · obtain rfl : j = 0 := by omega
            have hji : ¬ (0 : Int) < ((0 : Nat) : Int) := by omega
            have HO := Lib.hid (Seen.of_own hown)
            have HMK := Lib.hid (sMakeStripe_own _ T (n2 : Int) wr HO.out)
            clear hown
            go_wp2_with fail
            refine HMK.out.mono ?_
            rintro e w9 ⟨x9, y9, rfl, hO9, k9⟩
            obtain ⟨A3, n3, c3, A4, n4, c4, rfl, rfl⟩ := hO9.isSlice
            obtain ⟨mid2, hm1, hm2, oD2, oP2⟩ := hO9
            have s9 := k9.size
            have a10 := turn_alloc w9 (.cells #[.slice A3 n3 c3, .slice A4 n4 c4] 25)
            have z10 := World.size_alloc w9 (.cells #[.slice A3 n3 c3, .slice A4 n4 c4] 25)
            have k10 := turn_trans k9 a10 (by omega)
            have v0 := alloc_duo0 w9 (.slice A3 n3 c3) (.slice A4 n4 c4) 25
            have v1 := alloc_duo1 w9 (.slice A3 n3 c3) (.slice A4 n4 c4) 25
            have k10g : TurnIn g (g + 1) wr (w9.alloc (.cells #[.slice A3 n3 c3, .slice A4 n4 c4] 25)) := ⟨k10.os, k10.tape, k10.output, k10.size, fun k hk _ => k10.block k hk (by omega)⟩
            have HSx := Lib.hid (HSr.out.draw k10g (hcr.keep k10 (by omega)))
            have HKx := Lib.hid (keptR_turn HKr.out (by omega) k10g (by omega))
            have OD2 := Lib.hid (oD2.keep a10 (by omega))
            have OP2 := Lib.hid (oP2.keep a10 (by omega))
            clear oD2 oP2 a10 k10 k10g k9 t0 t1 hcr kr HSr HKr
            have t0 := HSx.out.s0
            have t1 := HSx.out.s1
            go_wp2_with fail
            generalize (w9.alloc (.cells #[.slice A3 n3 c3, .slice A4 n4 c4] 25)) = wx at *
            have hdr : TurnIn g (g + 1) wx wx.drew := ⟨rfl, rfl, rfl, Nat.le_refl _, fun _ _ _ => rfl⟩
            have HSZ := Lib.hid (HSx.out.draw hdr (HSx.out.cur.keep (a := 0) (b := 0) ⟨rfl, rfl, rfl, Nat.le_refl _, fun _ _ _ => rfl⟩ (by omega)))
            have HKZ : Hid (KeptR wx.drew (w.heap.size + 1)) := Lib.hid ⟨HKx.out.r0, HKx.out.r1, HKx.out.f0, HKx.out.f1⟩
            have OD3 := Lib.hid (OD2.out.keep (a := 0) (b := 0) (w' := wx.drew) ⟨rfl, rfl, rfl, Nat.le_refl _, fun _ _ _ => rfl⟩ (by omega))
            have OP3 := Lib.hid (OP2.out.keep (a := 0) (b := 0) (w' := wx.drew) ⟨rfl, rfl, rfl, Nat.le_refl _, fun _ _ _ => rfl⟩ (by omega))
            clear hdr
            have hS : (fun W : World => W.cell? ⟨S, 0, none⟩ = some (.slice A1 n1 c1) ∧ W.cell? ⟨S, 1, none⟩ = some (.slice B1 n2 d1) ∧ W.cell? ⟨w9.heap.size, 0, none⟩ = some (.slice A3 n3 c3) ∧ W.cell? ⟨w9.heap.size, 1, none⟩ = some (.slice A4 n4 c4)) wx.drew := ⟨t0, t1, v0, v1⟩
            refine wp_region_tail (fun W : World => W.cell? ⟨S, 0, none⟩ = some (.slice A1 n1 c1) ∧ W.cell? ⟨S, 1, none⟩ = some (.slice B1 n2 d1) ∧ W.cell? ⟨w9.heap.size, 0, none⟩ = some (.slice A3 n3 c3) ∧ W.cell? ⟨w9.heap.size, 1, none⟩ = some (.slice A4 n4 c4)) 3 (by kernel_rfl) ?_
            refine wpAnyT_take (i := 0) (oi := _) (v := ?vv0) rfl (by kernel_rfl) (by kernel_rfl) (by kernel_rfl) (by kernel_rfl) (fun _ _ _ h => h) (Or.inl ⟨by rfl, ?hyv0⟩) hS ?restv0
            case hyv0 => (intro W hW; obtain ⟨e1, e2, e3, e4⟩ := hW; go_simp; try with_reducible rfl)
            simp only [Act.put, List.setIfInBounds_toArray, List.set_cons_zero, List.set_cons_succ]
            refine wpAnyT_take (i := 1) (oi := _) (v := ?vv1) rfl (by kernel_rfl) (by kernel_rfl) (by kernel_rfl) (by kernel_rfl) (fun _ _ _ h => h) (Or.inl ⟨by rfl, ?hyv1⟩) hS ?restv1
            case hyv1 => (intro W hW; obtain ⟨e1, e2, e3, e4⟩ := hW; go_simp; try with_reducible rfl)
            simp only [Act.put, List.setIfInBounds_toArray, List.set_cons_zero, List.set_cons_succ]
            have u0 : wx.drew.cell? ⟨S, 0, none⟩ = some (.slice A1 n1 c1) := t0
            have u1 : wx.drew.cell? ⟨S, 1, none⟩ = some (.slice B1 n2 d1) := t1
            have u2 : wx.drew.cell? ⟨w9.heap.size, 0, none⟩ = some (.slice A3 n3 c3) := v0
            have u3 : wx.drew.cell? ⟨w9.heap.size, 1, none⟩ = some (.slice A4 n4 c4) := v1
            clear hS t0 t1 v0 v1
            generalize wx.drew = wy at *
            obtain ⟨q0, q1, g0, g1⟩ := HSZ.out.kept
            obtain ⟨q2, q3, g2, g3⟩ := kept_put2 (.slice A1 n1 c1) (.slice B1 n2 d1) HKZ.out
            have hP4 := put4_cells (.slice A1 n1 c1) (.slice B1 n2 d1) (.slice A3 n3 c3) (.slice A4 n4 c4) HSZ.out.kept HKZ.out
            have HE : Hid (DrawsTw w g cv (m + 8000) (.returned (.tuple #[.agg #[.slice A1 n1 c1, .slice B1 n2 d1], .agg #[.slice A3 n3 c3, .slice A4 n4 c4]])) (put4 (wy) w.heap.size (.slice A1 n1 c1) (.slice B1 n2 d1) (.slice A3 n3 c3) (.slice A4 n4 c4))) :=
              Lib.hid (by
                have kP4 := put4_turn (wy) w.heap.size (.slice A1 n1 c1) (.slice B1 n2 d1) (.slice A3 n3 c3) (.slice A4 n4 c4)
                have a2 := HSZ.out.hlm
                have a3 := HSZ.out.hmh
                have aw := HSZ.out.hSW
                have a1 := HSZ.out.hhS
                exact ⟨_, _, _, _, t, (mkR T (n2 : Int)), lo, mid, hi, wr.heap.size, mid2, w9.heap.size, rfl, HSZ.out.data.keep kP4 (by omega), HSZ.out.par.keep kP4 (by omega), OD3.out.keep kP4 (by omega), OP3.out.keep kP4 (by omega), (by omega), (HSZ.out.cur.keep kP4 (by omega)).more (by omega), turn_trans HSZ.out.turn kP4 (by omega)⟩)
            unfold put4 at hP4 HE
            obtain ⟨p0, p1, p2, p3⟩ := hP4
            try simp only [Act.put, List.setIfInBounds_toArray, List.set_cons_zero, List.set_cons_succ]
            refine wpAnyT_one (i := 2) (o := _) rfl (by kernel_rfl) (fun K hK => ?_)
            go_simp
            refine hK.out _ _ (fun _ => ⟨(cell_set_other _ _ _ _ (by omega)).trans ((cell_set_other _ _ _ _ (by omega)).trans u0), (cell_set_other _ _ _ _ (by omega)).trans ((cell_set_other _ _ _ _ (by omega)).trans u1), (cell_set_other _ _ _ _ (by omega)).trans ((cell_set_other _ _ _ _ (by omega)).trans u2), (cell_set_other _ _ _ _ (by omega)).trans ((cell_set_other _ _ _ _ (by omega)).trans u3)⟩) ?_
            clear hK K
            try simp only [Act.put, List.setIfInBounds_toArray, List.set_cons_zero, List.set_cons_succ]
            refine wpAnyT_one (i := 3) (o := _) rfl (by kernel_rfl) (fun K hK => ?_)
            go_simp
            refine hK.out _ _ (fun h => absurd rfl h) ?_
            clear hK K
            try simp only [Act.put, List.setIfInBounds_toArray, List.set_cons_zero, List.set_cons_succ]
            refine wpAnyT_done (by kernel_rfl) ?_ _
            clear q0 q1 g0 g1 q2 q3 g2 g3
            go_wp2_with fail
            refine bodyPost_ret (v := .tuple #[.agg #[.slice A1 n1 c1, .slice B1 n2 d1], .agg #[.slice A3 n3 c3, .slice A4 n4 c4]]) (by simp [results, Tryd.results33, go_sem, p0, p1, p2, p3]) rfl ?_
            exact HE.out
    · have HSa := HS4
      have HKa := HK4
      clear HS4 HK4
      generalize w4 = wa at *
      have t0 := HSa.out.s0
      have t1 := HSa.out.s1
      go_wp2_with fail
      have hS : (fun W : World => W.cell? ⟨S, 0, none⟩ = some (.slice A1 n1 c1) ∧ W.cell? ⟨S, 1, none⟩ = some (.slice B1 n2 d1)) wa.drew := ⟨t0, t1⟩
      refine wp_region_tail (fun W : World => W.cell? ⟨S, 0, none⟩ = some (.slice A1 n1 c1) ∧ W.cell? ⟨S, 1, none⟩ = some (.slice B1 n2 d1)) 4 (by kernel_rfl) ?_
      refine wpAnyT_take (i := 0) (oi := _) (v := ?vx0) rfl (by kernel_rfl) (by kernel_rfl) (by kernel_rfl) (by kernel_rfl) (fun _ _ _ h => h) (Or.inl ⟨by rfl, ?hyx0⟩) hS ?restx0
      case hyx0 => (intro W hW; obtain ⟨e1, e2⟩ := hW; go_simp; try with_reducible rfl)
      simp only [Act.put, List.setIfInBounds_toArray, List.set_cons_zero, List.set_cons_succ]
      refine wpAnyT_take (i := 1) (oi := _) (v := ?vx1) rfl (by kernel_rfl) (by kernel_rfl) (by kernel_rfl) (by kernel_rfl) (fun _ _ _ h => h) (Or.inl ⟨by rfl, ?hyx1⟩) hS ?restx1
      case hyx1 => (intro W hW; obtain ⟨e1, e2⟩ := hW; go_simp; try with_reducible rfl)
      simp only [Act.put, List.setIfInBounds_toArray, List.set_cons_zero, List.set_cons_succ]
      refine wpAnyT_one (i := 2) (o := _) rfl (by kernel_rfl) (fun K hK => ?_)
      go_simp
      refine (stripe_any g cv _ _ (show CurAt wa.drew g cv _ from HSa.out.cur) (by omega)).mono ?_
      rintro e wb ⟨x2, y2, T2, lo2, mid2, hi2, rfl, oD2, oP2, ⟨hb5, hb6, hb7, hb8⟩, hT2, hcb, kb'⟩
      have kb := undrew kb'
      have sa := HSa.out.hSW
      have sb := kb.size
      have hd1 : wa.heap.size ≤ lo2 := hb5
      have HSZ := Lib.hid (HSa.out.draw kb hcb)
      have HKZ := Lib.hid (keptR_turn HKa.out (by omega) kb (by omega))
      have u0 := HSZ.out.s0
      have u1 := HSZ.out.s1
      have OD2 := Lib.hid oD2
      have OP2 := Lib.hid oP2
      obtain ⟨A3, n3, c3, rfl⟩ := oD2.isSlice
      obtain ⟨A4, n4, c4, rfl⟩ := oP2.isSlice
      refine hK.out _ _ (fun _ => ⟨u0, u1⟩) ?_
      clear hK K hS oD2 oP2 kb kb' hcb t0 t1
      obtain ⟨q0, q1, g0, g1⟩ := HSZ.out.kept
      obtain ⟨q2, q3, g2, g3⟩ := kept_put2 (.slice A1 n1 c1) (.slice B1 n2 d1) HKZ.out
      have hP4 := put4_cells (.slice A1 n1 c1) (.slice B1 n2 d1) (.slice A3 n3 c3) (.slice A4 n4 c4) HSZ.out.kept HKZ.out
      have HE : Hid (DrawsTw w g cv (m + 8000) (.returned (.tuple #[.agg #[.slice A1 n1 c1, .slice B1 n2 d1], .agg #[.slice A3 n3 c3, .slice A4 n4 c4]])) (put4 (wb) w.heap.size (.slice A1 n1 c1) (.slice B1 n2 d1) (.slice A3 n3 c3) (.slice A4 n4 c4))) :=
        Lib.hid (by
          have kP4 := put4_turn (wb) w.heap.size (.slice A1 n1 c1) (.slice B1 n2 d1) (.slice A3 n3 c3) (.slice A4 n4 c4)
          have a2 := HSZ.out.hlm
          have a3 := HSZ.out.hmh
          have aw := HSZ.out.hSW
          have a1 := HSZ.out.hhS
          exact ⟨_, _, _, _, t, T2, lo, mid, hi, lo2, mid2, hi2, rfl, HSZ.out.data.keep kP4 (by omega), HSZ.out.par.keep kP4 (by omega), OD2.out.keep kP4 (by omega), OP2.out.keep kP4 (by omega), (by omega), (HSZ.out.cur.keep kP4 (by omega)).more (by omega), turn_trans HSZ.out.turn kP4 (by omega)⟩)
      unfold put4 at hP4 HE
      obtain ⟨p0, p1, p2, p3⟩ := hP4
      try simp only [Act.put, List.setIfInBounds_toArray, List.set_cons_zero, List.set_cons_succ]
      refine wpAnyT_one (i := 3) (o := _) rfl (by kernel_rfl) (fun K hK => ?_)
      go_simp
      refine hK.out _ _ (fun _ => ⟨(cell_set_other _ _ _ _ (by omega)).trans ((cell_set_other _ _ _ _ (by omega)).trans u0), (cell_set_other _ _ _ _ (by omega)).trans ((cell_set_other _ _ _ _ (by omega)).trans u1)⟩) ?_
      clear hK K
      try simp only [Act.put, List.setIfInBounds_toArray, List.set_cons_zero, List.set_cons_succ]
      refine wpAnyT_one (i := 4) (o := _) rfl (by kernel_rfl) (fun K hK => ?_)
      go_simp
      refine hK.out _ _ (fun h => absurd rfl h) ?_
      clear hK K
      try simp only [Act.put, List.setIfInBounds_toArray, List.set_cons_zero, List.set_cons_succ]
      refine wpAnyT_done (by kernel_rfl) ?_ _
      clear q0 q1 g0 g1 q2 q3 g2 g3
      go_wp2_with fail
      refine bodyPost_ret (v := .tuple #[.agg #[.slice A1 n1 c1, .slice B1 n2 d1], .agg #[.slice A3 n3 c3, .slice A4 n4 c4]]) (by simp [results, Tryd.results33, go_sem, p0, p1, p2, p3]) rfl ?_
      exact HE.out
  · have hno : strpOk t = false := by simpa using hok
    rw [hno]
    have HSa := HS3
    have HKa := HK3
    clear HS3 HK3 hok
    generalize w3 = wa at *
    have t0 := HSa.out.s0
    have t1 := HSa.out.s1
    go_wp2_with fail
    have hS : (fun W : World => W.cell? ⟨S, 0, none⟩ = some (.slice A1 n1 c1) ∧ W.cell? ⟨S, 1, none⟩ = some (.slice B1 n2 d1)) wa.drew := ⟨t0, t1⟩
    refine wp_region_tail (fun W : World => W.cell? ⟨S, 0, none⟩ = some (.slice A1 n1 c1) ∧ W.cell? ⟨S, 1, none⟩ = some (.slice B1 n2 d1)) 4 (by kernel_rfl) ?_
    refine wpAnyT_take (i := 0) (oi := _) (v := ?vy0) rfl (by kernel_rfl) (by kernel_rfl) (by kernel_rfl) (by kernel_rfl) (fun _ _ _ h => h) (Or.inl ⟨by rfl, ?hyy0⟩) hS ?resty0
    case hyy0 => (intro W hW; obtain ⟨e1, e2⟩ := hW; go_simp; try with_reducible rfl)
    simp only [Act.put, List.setIfInBounds_toArray, List.set_cons_zero, List.set_cons_succ]
    refine wpAnyT_take (i := 1) (oi := _) (v := ?vy1) rfl (by kernel_rfl) (by kernel_rfl) (by kernel_rfl) (by kernel_rfl) (fun _ _ _ h => h) (Or.inl ⟨by rfl, ?hyy1⟩) hS ?resty1
    case hyy1 => (intro W hW; obtain ⟨e1, e2⟩ := hW; go_simp; try with_reducible rfl)
    simp only [Act.put, List.setIfInBounds_toArray, List.set_cons_zero, List.set_cons_succ]
    refine wpAnyT_one (i := 2) (o := _) rfl (by kernel_rfl) (fun K hK => ?_)
    go_simp
    refine (stripe_any g cv _ _ (show CurAt wa.drew g cv _ from HSa.out.cur) (by omega)).mono ?_
    rintro e wb ⟨x2, y2, T2, lo2, mid2, hi2, rfl, oD2, oP2, ⟨hb5, hb6, hb7, hb8⟩, hT2, hcb, kb'⟩
    have kb := undrew kb'
    have sa := HSa.out.hSW
    have sb := kb.size
    have hd1 : wa.heap.size ≤ lo2 := hb5
    have HSZ := Lib.hid (HSa.out.draw kb hcb)
    have HKZ := Lib.hid (keptR_turn HKa.out (by omega) kb (by omega))
    have u0 := HSZ.out.s0
    have u1 := HSZ.out.s1
    have OD2 := Lib.hid oD2
    have OP2 := Lib.hid oP2
    obtain ⟨A3, n3, c3, rfl⟩ := oD2.isSlice
    obtain ⟨A4, n4, c4, rfl⟩ := oP2.isSlice
    refine hK.out _ _ (fun _ => ⟨u0, u1⟩) ?_
    clear hK K hS oD2 oP2 kb kb' hcb t0 t1
    obtain ⟨q0, q1, g0, g1⟩ := HSZ.out.kept
    obtain ⟨q2, q3, g2, g3⟩ := kept_put2 (.slice A1 n1 c1) (.slice B1 n2 d1) HKZ.out
    have hP4 := put4_cells (.slice A1 n1 c1) (.slice B1 n2 d1) (.slice A3 n3 c3) (.slice A4 n4 c4) HSZ.out.kept HKZ.out
    have HE : Hid (DrawsTw w g cv (m + 8000) (.returned (.tuple #[.agg #[.slice A1 n1 c1, .slice B1 n2 d1], .agg #[.slice A3 n3 c3, .slice A4 n4 c4]])) (put4 (wb) w.heap.size (.slice A1 n1 c1) (.slice B1 n2 d1) (.slice A3 n3 c3) (.slice A4 n4 c4))) :=
      Lib.hid (by
        have kP4 := put4_turn (wb) w.heap.size (.slice A1 n1 c1) (.slice B1 n2 d1) (.slice A3 n3 c3) (.slice A4 n4 c4)
        have a2 := HSZ.out.hlm
        have a3 := HSZ.out.hmh
        have aw := HSZ.out.hSW
        have a1 := HSZ.out.hhS
        exact ⟨_, _, _, _, t, T2, lo, mid, hi, lo2, mid2, hi2, rfl, HSZ.out.data.keep kP4 (by omega), HSZ.out.par.keep kP4 (by omega), OD2.out.keep kP4 (by omega), OP2.out.keep kP4 (by omega), (by omega), (HSZ.out.cur.keep kP4 (by omega)).more (by omega), turn_trans HSZ.out.turn kP4 (by omega)⟩)
    unfold put4 at hP4 HE
    obtain ⟨p0, p1, p2, p3⟩ := hP4
    try simp only [Act.put, List.setIfInBounds_toArray, List.set_cons_zero, List.set_cons_succ]
    refine wpAnyT_one (i := 3) (o := _) rfl (by kernel_rfl) (fun K hK => ?_)
    go_simp
    refine hK.out _ _ (fun _ => ⟨(cell_set_other _ _ _ _ (by omega)).trans ((cell_set_other _ _ _ _ (by omega)).trans u0), (cell_set_other _ _ _ _ (by omega)).trans ((cell_set_other _ _ _ _ (by omega)).trans u1)⟩) ?_
    clear hK K
    try simp only [Act.put, List.setIfInBounds_toArray, List.set_cons_zero, List.set_cons_succ]
    refine wpAnyT_one (i := 4) (o := _) rfl (by kernel_rfl) (fun K hK => ?_)
    go_simp
    refine hK.out _ _ (fun h => absurd rfl h) ?_
    clear hK K
    try simp only [Act.put, List.setIfInBounds_toArray, List.set_cons_zero, List.set_cons_succ]
    refine wpAnyT_done (by kernel_rfl) ?_ _
    clear q0 q1 g0 g1 q2 q3 g2 g3
    go_wp2_with fail
    refine bodyPost_ret (v := .tuple #[.agg #[.slice A1 n1 c1, .slice B1 n2 d1], .agg #[.slice A3 n3 c3, .slice A4 n4 c4]]) (by simp [results, Tryd.results33, go_sem, p0, p1, p2, p3]) rfl ?_
    exact HE.out

end Go.Proofs.YtjgmegfbfjmnfaaDoor

/- The draw of stripes to merge. -/
namespace Go.Proofs.YtjgmegfbfjmnfaaDoor
open Go.RowKit G294

set_option maxRecDepth 100000 in
set_option maxHeartbeats 4000000 in
theorem drawMergeStripes_any (v : Value) (l : List UInt8) (w : World) (hv : Seen w v (bys l)) : Calls Tryd.prog 5 #[v] w (RetTw w) := by
  obtain ⟨A, c, hvv⟩ := hv.len
  rw [bys_length] at hvv
  subst hvv
  have a0 := turn_alloc w (.cells #[.slice none 0 0, .slice none 0 0] 25)
  have z0 : (w.alloc (.cells #[.slice none 0 0, .slice none 0 0] 25)).heap.size = w.heap.size + 1 := World.size_alloc _ _
  have hK2 : KeptR (w.alloc (.cells #[.slice none 0 0, .slice none 0 0] 25)) w.heap.size := ⟨alloc_duo0 _ _ _ _, alloc_duo1 _ _ _ _, alloc_frz _ _ _ _, alloc_frz _ _ _ _⟩
  have a1 := turn_alloc (w.alloc (.cells #[.slice none 0 0, .slice none 0 0] 25)) (.cells #[.slice none 0 0, .slice none 0 0] 25)
  have z1 : ((w.alloc (.cells #[.slice none 0 0, .slice none 0 0] 25)).alloc (.cells #[.slice none 0 0, .slice none 0 0] 25)).heap.size = w.heap.size + 2 := by rw [World.size_alloc, World.size_alloc]
  have hK3 : KeptR ((w.alloc (.cells #[.slice none 0 0, .slice none 0 0] 25)).alloc (.cells #[.slice none 0 0, .slice none 0 0] 25)) (w.heap.size + 1) := by
    have h : KeptR ((w.alloc (.cells #[.slice none 0 0, .slice none 0 0] 25)).alloc (.cells #[.slice none 0 0, .slice none 0 0] 25)) (w.alloc (.cells #[.slice none 0 0, .slice none 0 0] 25)).heap.size := ⟨alloc_duo0 _ _ _ _, alloc_duo1 _ _ _ _, alloc_frz _ _ _ _, alloc_frz _ _ _ _⟩
    rwa [World.size_alloc] at h
  have hc : CurAt (((w.alloc (.cells #[.slice none 0 0, .slice none 0 0] 25)).alloc (.cells #[.slice none 0 0, .slice none 0 0] 25)).alloc (.cells #[.slice A l.length c, .int .i64 0, .int .u64 0] 72)) (w.heap.size + 2) (.slice A l.length c) 0 := by
    have h := cur_new ((hv.touch a0).touch a1)
    rwa [z1] at h
  have a2 := turn_alloc ((w.alloc (.cells #[.slice none 0 0, .slice none 0 0] 25)).alloc (.cells #[.slice none 0 0, .slice none 0 0] 25)) (.cells #[.slice A l.length c, .int .i64 0, .int .u64 0] 72)
  have z2 : (((w.alloc (.cells #[.slice none 0 0, .slice none 0 0] 25)).alloc (.cells #[.slice none 0 0, .slice none 0 0] 25)).alloc (.cells #[.slice A l.length c, .int .i64 0, .int .u64 0] 72)).heap.size = w.heap.size + 3 := by rw [World.size_alloc, z1]
  have HK2 := Lib.hid ((hK2.turn a1 (by omega)).turn a2 (by omega))
  have HK3 := Lib.hid (hK3.turn a2 (by omega))
  have k02 := turn_trans (turn_trans a0 a1 (by omega)) a2 (by omega)
  clear hK2 hK3 a0 a1 a2 z0 z1 hv
  go_enter Tryd.func5, Tryd.ntmps5
  go_wp2_with fail
  refine (twins_any _ _ 0 _ hc (by omega)).mono ?_
  generalize (((w.alloc (.cells #[.slice none 0 0, .slice none 0 0] 25)).alloc (.cells #[.slice none 0 0, .slice none 0 0] 25)).alloc (.cells #[.slice A l.length c, .int .i64 0, .int .u64 0] 72)) = w0 at *
  rintro e w1 ⟨x, y, x2, y2, s, t, lo, mid, hi, lo2, mid2, hi2, rfl, o1, o2, o3, o4, hb, hc1, k1⟩
  obtain ⟨A1, n1, c1, rfl⟩ := o1.isSlice
  obtain ⟨B1, n2, d1, rfl⟩ := o2.isSlice
  obtain ⟨A3, n3, c3, rfl⟩ := o3.isSlice
  obtain ⟨A4, n4, c4, rfl⟩ := o4.isSlice
  have s1 := k1.size
  have HK2b := Lib.hid (keptR_turn HK2.out (by omega) k1 (by omega))
  have HK3b := Lib.hid (keptR_turn HK3.out (by omega) k1 (by omega))
  obtain ⟨q0, q1, g0, g1⟩ := HK2b.out
  obtain ⟨q2, q3, g2, g3⟩ := kept_put2 (.slice A1 n1 c1) (.slice B1 n2 d1) HK3b.out
  have hP4 := put4_cells (.slice A1 n1 c1) (.slice B1 n2 d1) (.slice A3 n3 c3) (.slice A4 n4 c4) HK2b.out HK3b.out
  have kP4 := put4_turn w1 w.heap.size (.slice A1 n1 c1) (.slice B1 n2 d1) (.slice A3 n3 c3) (.slice A4 n4 c4)
  have HE : Hid (RetTw w (.returned (.tuple #[.agg #[.slice A1 n1 c1, .slice B1 n2 d1], .agg #[.slice A3 n3 c3, .slice A4 n4 c4]])) (put4 w1 w.heap.size (.slice A1 n1 c1) (.slice B1 n2 d1) (.slice A3 n3 c3) (.slice A4 n4 c4))) :=
    Lib.hid ⟨_, _, _, _, s, t, rfl, (o1.keep kP4 (by omega)).seen, (o2.keep kP4 (by omega)).seen, (o3.keep kP4 (by omega)).seen, (o4.keep kP4 (by omega)).seen, turn_trans (turn_trans k02 k1 (by omega)) kP4 (by omega)⟩
  unfold put4 at hP4 HE
  obtain ⟨p0, p1, p2, p3⟩ := hP4
  clear o1 o2 o3 o4 k1 kP4 hc1 hc k02 HK2 HK3
  go_wp2_with fail
  refine bodyPost_ret (v := .tuple #[.agg #[.slice A1 n1 c1, .slice B1 n2 d1], .agg #[.slice A3 n3 c3, .slice A4 n4 c4]]) (by simp [results, Tryd.results5, go_sem, p0, p1, p2, p3]) rfl ?_
  exact HE.out

end Go.Proofs.YtjgmegfbfjmnfaaDoor
