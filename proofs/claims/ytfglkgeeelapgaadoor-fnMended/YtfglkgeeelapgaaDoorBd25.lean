/- Joined texts: CurT. -/
import Derived.Test.YtfglkgeeelapgaaDoorBd23
import Derived.IntWalk
set_option linter.unusedSimpArgs false
set_option linter.unusedVariables false
/- The draws of a stripe. -/
namespace Go.Proofs.YtfglkgeeelapgaaDoor
open Go.RowKit G294
theorem own_farT {w w' : World} {lo a b n size : Nat} {E : TypeId} {v : Value} {xs : List Value} (h : w.ownsRow lo E size v n xs) (t : TurnIn a b w w') (d : b ≤ lo) : w'.ownsRow lo E size v n xs := by
  refine ⟨h.1, ?_⟩
  rcases h.2 with hn | ⟨g, cap, cur, rfl, hbg, hg, rest⟩
  · exact .inl hn
  · refine .inr ⟨g, cap, cur, rfl, hbg, ?_, rest⟩
    rw [t.block g (Array.getElem?_eq_some_iff.1 hg).1 (by omega)]
    exact hg
theorem keptR_turn {W W' : World} {R a b : Nat} (h : KeptR W R) (hl : R < W.heap.size) (t : TurnIn a b W W') (d : R < a ∨ b ≤ R) : KeptR W' R := ⟨cell_keepT h.r0 hl t d, cell_keepT h.r1 hl t d, frozen_keepT h.f0 hl t d, frozen_keepT h.f1 hl t d⟩
def RetTI (w : World) (e : Ending) (w' : World) : Prop := ∃ (x y u : Value) (t : Strp) (l : List Int), e = .returned (.tuple #[.agg #[x, y], u]) ∧ Seen w' x (strs t.1) ∧ Seen w' y (strs t.2) ∧ Seen w' u (ints l) ∧ TurnIn 0 0 w w'
def RetTIS (w : World) (e : Ending) (w' : World) : Prop := ∃ (x y : Value) (t : Strp) (i : Int) (r : List UInt8), e = .returned (.tuple #[.agg #[x, y], .int .i64 i, .string (str r)]) ∧ Seen w' x (strs t.1) ∧ Seen w' y (strs t.2) ∧ (-1 ≤ i ∧ i ≤ 17 ∧ r.length ≤ 40) ∧ TurnIn 0 0 w w'

set_option maxRecDepth 100000 in
set_option maxHeartbeats 8000000 in
theorem drawMendStripe_any (v : Value) (l : List UInt8) (w : World) (hv : Seen w v (bys l)) : Calls Tryd.prog 27 #[v] w (RetTI w) := by
  obtain ⟨A, c, hvv⟩ := hv.len
  rw [bys_length] at hvv
  subst hvv
  have a0 := turn_alloc w (.cells #[.slice none 0 0, .slice none 0 0] 25)
  have z0 : w.heap.size + 1 ≤ (w.alloc (.cells #[.slice none 0 0, .slice none 0 0] 25)).heap.size := by simp
  have z0b : (w.alloc (.cells #[.slice none 0 0, .slice none 0 0] 25)).heap.size ≤ w.heap.size + 1 := by simp
  have hR0 : KeptR (w.alloc (.cells #[.slice none 0 0, .slice none 0 0] 25)) w.heap.size := ⟨alloc_duo0 _ _ _ _, alloc_duo1 _ _ _ _, alloc_frz _ _ _ _, alloc_frz _ _ _ _⟩
  have hc : CurAt ((w.alloc (.cells #[.slice none 0 0, .slice none 0 0] 25)).alloc (.cells #[.slice A l.length c, .int .i64 0, .int .u64 0] 62)) (w.heap.size + 1) (.slice A l.length c) 0 := by
    have h := cur_new (hv.touch a0)
    rwa [World.size_alloc] at h
  have a1 := turn_alloc (w.alloc (.cells #[.slice none 0 0, .slice none 0 0] 25)) (.cells #[.slice A l.length c, .int .i64 0, .int .u64 0] 62)
  have z1 : w.heap.size + 2 ≤ ((w.alloc (.cells #[.slice none 0 0, .slice none 0 0] 25)).alloc (.cells #[.slice A l.length c, .int .i64 0, .int .u64 0] 62)).heap.size := by simp
  have HR1 := Lib.hid (hR0.turn a1 (by omega))
  have k01 := turn_trans a0 a1 (by omega)
  clear hR0 hv
  go_enter Tryd.func27, Tryd.ntmps27
  go_wp2_with fail
  refine (stripe_any _ _ 0 _ hc (by omega)).mono ?_
  generalize ((w.alloc (.cells #[.slice none 0 0, .slice none 0 0] 25)).alloc (.cells #[.slice A l.length c, .int .i64 0, .int .u64 0] 62)) = w0 at *
  rintro e w1 ⟨x, y, t, lo, mid, hi, rfl, oD, oP, hb, hT, hc1, k1⟩
  obtain ⟨A1, c1, hx1⟩ := oD.seen.len
  obtain ⟨B1, d1, hy1⟩ := oP.seen.len
  rw [strs_length] at hx1 hy1
  subst hx1 hy1
  obtain ⟨hT1, hT2⟩ := hT
  obtain ⟨hb1, hb2, hb3, hb4⟩ := hb
  have HT2 := Lib.hid hT2
  have s1 := k1.size
  have HR2 := Lib.hid (keptR_turn HR1.out (by omega) k1 (by omega))
  have kk := turn_trans k01 k1 (by omega)
  have HD := Lib.hid oD
  have HP := Lib.hid oP
  have HN1 : Hid (t.1.length = t.1.length) := rfl
  clear HR1 hc a0 a1 k01 k1 z0 z0b hT2 oD oP
  generalize hn1 : t.1.length = n1 at *
  generalize hn2 : t.2.length = n2 at *
  have HNN := Lib.hid hn1
  clear hn1 hn2 HN1
  have a2 := turn_alloc w1 (.cells #[.slice A1 n1 c1, .slice B1 n2 d1] 25)
  have z2 : w1.heap.size + 1 ≤ (w1.alloc (.cells #[.slice A1 n1 c1, .slice B1 n2 d1] 25)).heap.size := by simp
  have t0 := alloc_duo0 w1 (.slice A1 n1 c1) (.slice B1 n2 d1) 25
  have t1 := alloc_duo1 w1 (.slice A1 n1 c1) (.slice B1 n2 d1) 25
  have hc2 := hc1.keep a2 (by omega)
  have HR3 := Lib.hid (HR2.out.turn a2 (by omega))
  have HD3 := Lib.hid (HD.out.keep a2 (by omega))
  have HP3 := Lib.hid (HP.out.keep a2 (by omega))
  have HK3 := Lib.hid (turn_trans kk a2 (by omega))
  clear a2 hc1 HR2 HD HP kk
  go_wp2_with fail
  generalize (w1.alloc (.cells #[.slice A1 n1 c1, .slice B1 n2 d1] 25)) = w2 at *
  have hS : (fun W : World => W.cell? ⟨w1.heap.size, 0, none⟩ = some (.slice A1 n1 c1) ∧ W.cell? ⟨w1.heap.size, 1, none⟩ = some (.slice B1 n2 d1)) w2.drew := ⟨t0, t1⟩
  refine wp_region_tail (fun W : World => W.cell? ⟨w1.heap.size, 0, none⟩ = some (.slice A1 n1 c1) ∧ W.cell? ⟨w1.heap.size, 1, none⟩ = some (.slice B1 n2 d1)) 9 (by kernel_rfl) ?_
  refine wpAnyT_take (i := 0) (oi := _) (v := ?va0) rfl (by kernel_rfl) (by kernel_rfl) (by kernel_rfl) (by kernel_rfl) (fun _ _ _ h => h) (Or.inl ⟨by rfl, ?hya0⟩) hS ?resta0
  case hya0 => (intro W hW; obtain ⟨e1, e2⟩ := hW; go_simp; try with_reducible rfl)
  simp only [Act.put, List.setIfInBounds_toArray, List.set_cons_zero, List.set_cons_succ]
  refine wpAnyT_take (i := 1) (oi := _) (v := ?va1) rfl (by kernel_rfl) (by kernel_rfl) (by kernel_rfl) (by kernel_rfl) (fun _ _ _ h => h) (Or.inl ⟨by rfl, ?hya1⟩) hS ?resta1
  case hya1 => (intro W hW; obtain ⟨e1, e2⟩ := hW; go_simp; try with_reducible rfl)
  simp only [Act.put, List.setIfInBounds_toArray, List.set_cons_zero, List.set_cons_succ]
  refine wpAnyT_take (i := 2) (oi := _) (v := ?va2) rfl (by kernel_rfl) (by kernel_rfl) (by kernel_rfl) (by kernel_rfl) (fun _ _ _ h => h) (Or.inl ⟨by rfl, ?hya2⟩) hS ?resta2
  case hya2 => (intro W hW; obtain ⟨e1, e2⟩ := hW; go_simp; try with_reducible rfl)
  simp only [Act.put, List.setIfInBounds_toArray, List.set_cons_zero, List.set_cons_succ]
  refine wpAnyT_take (i := 3) (oi := _) (v := ?va3) rfl (by kernel_rfl) (by kernel_rfl) (by kernel_rfl) (by kernel_rfl) (fun _ _ _ h => h) (Or.inl ⟨by rfl, ?hya3⟩) hS ?resta3
  case hya3 => (intro W hW; obtain ⟨e1, e2⟩ := hW; go_simp; try with_reducible rfl)
  simp only [Act.put, List.setIfInBounds_toArray, List.set_cons_zero, List.set_cons_succ]
  refine wpAnyT_take (i := 4) (oi := _) (v := ?va4) rfl (by kernel_rfl) (by kernel_rfl) (by kernel_rfl) (by kernel_rfl) (fun _ _ _ h => h) (Or.inl ⟨by rfl, ?hya4⟩) hS ?resta4
  case hya4 => (intro W hW; obtain ⟨e1, e2⟩ := hW; go_simp; try with_reducible rfl)
  simp only [Act.put, List.setIfInBounds_toArray, List.set_cons_zero, List.set_cons_succ]
  refine wpAnyT_take (i := 5) (oi := _) (v := ?va5) rfl (by kernel_rfl) (by kernel_rfl) (by kernel_rfl) (by kernel_rfl) (fun _ _ _ h => h) (Or.inl ⟨by rfl, ?hya5⟩) hS ?resta5
  case hya5 => (intro W hW; obtain ⟨e1, e2⟩ := hW; go_simp; try with_reducible rfl)
  simp only [Act.put, List.setIfInBounds_toArray, List.set_cons_zero, List.set_cons_succ]
  refine wpAnyT_one (i := 6) (o := _) rfl (by kernel_rfl) (fun K hK => ?_)
  go_simp
  refine (pick_any (w.heap.size + 1) _ _ 5 _ (show CurAt w2.drew (w.heap.size + 1) _ _ from hc2) (by omega)).mono ?_
  rintro e w3 ⟨r, rfl, ra, rb, hc3, k3'⟩
  have k3 := undrew k3'
  have s3 := k3.size
  have u0 := cell_keepT t0 (by omega) k3 (by omega)
  have u1 := cell_keepT t1 (by omega) k3 (by omega)
  have hr : r ≤ 4 := by simpa [pickHi] using rb
  obtain ⟨rn, rfl⟩ := Int.eq_ofNat_of_zero_le ra
  refine hK.out _ _ (fun _ => ⟨u0, u1⟩) ?_
  clear hK K hS ra rb
  try simp only [Act.put, List.setIfInBounds_toArray, List.set_cons_zero, List.set_cons_succ]
  refine wpAnyT_one (i := 7) (o := _) rfl (by kernel_rfl) (fun K hK => ?_)
  go_simp
  refine (chosen_any (w.heap.size + 1) _ _ n1 rn _ hc3 (by omega) (by omega) (by omega)).mono ?_
  rintro e w4 ⟨uu, li, rfl, ol, hc4, k4⟩
  have s4 := k4.size
  have x0 := cell_keepT u0 (by omega) k4 (by omega)
  have x1 := cell_keepT u1 (by omega) k4 (by omega)
  refine hK.out _ _ (fun _ => ⟨x0, x1⟩) ?_
  clear hK K
  have k34 := turn_trans k3 k4 (by omega)
  have HR5 := Lib.hid (keptR_turn HR3.out (by omega) k34 (by omega))
  have HD5 := Lib.hid (HD3.out.keep k34 (by omega))
  have HP5 := Lib.hid (HP3.out.keep k34 (by omega))
  have HK5 := Lib.hid (turn_trans HK3.out k34 (by omega))
  have HL5 := Lib.hid ol
  obtain ⟨q0, q1, g0, g1⟩ := HR5.out
  try simp only [Act.put, List.setIfInBounds_toArray, List.set_cons_zero, List.set_cons_succ]
  refine wpAnyT_one (i := 8) (o := _) rfl (by kernel_rfl) (fun K hK => ?_)
  go_simp
  refine hK.out _ _ (fun _ => ⟨(cell_set_other _ _ _ _ (by omega)).trans ((cell_set_other _ _ _ _ (by omega)).trans x0), (cell_set_other _ _ _ _ (by omega)).trans ((cell_set_other _ _ _ _ (by omega)).trans x1)⟩) ?_
  clear hK K
  try simp only [Act.put, List.setIfInBounds_toArray, List.set_cons_zero, List.set_cons_succ]
  refine wpAnyT_one (i := 9) (o := _) rfl (by kernel_rfl) (fun K hK => ?_)
  go_simp
  refine hK.out _ _ (fun h => absurd rfl h) ?_
  clear hK K
  try simp only [Act.put, List.setIfInBounds_toArray, List.set_cons_zero, List.set_cons_succ]
  refine wpAnyT_done (by kernel_rfl) ?_ _
  have j0 := turn_setCell w4 w.heap.size 0 (.slice A1 n1 c1)
  have j1 := turn_setCell (w4.setCell ⟨w.heap.size, 0, none⟩ (.slice A1 n1 c1)) w.heap.size 1 (.slice B1 n2 d1)
  have HE : Hid (RetTI w (.returned (.tuple #[.agg #[.slice A1 n1 c1, .slice B1 n2 d1], uu])) ((w4.setCell ⟨w.heap.size, 0, none⟩ (.slice A1 n1 c1)).setCell ⟨w.heap.size, 1, none⟩ (.slice B1 n2 d1))) :=
    Lib.hid ⟨_, _, _, t, li, rfl, ((HD5.out.keep j0 (by omega)).keep j1 (by omega)).seen, ((HP5.out.keep j0 (by omega)).keep j1 (by omega)).seen, Seen.of_own (own_farT (own_farT HL5.out j0 (by omega)) j1 (by omega)), turn_trans (turn_trans HK5.out j0 (by omega)) j1 (by omega)⟩
  clear j0 j1 k34 k3 k3' k4 u0 u1
  go_wp2_with fail
  refine bodyPost_ret (v := .tuple #[.agg #[.slice A1 n1 c1, .slice B1 n2 d1], uu]) (by simp [results, Tryd.results27, go_sem, q0, q1, g0, g1]) rfl ?_
  exact HE.out

set_option maxRecDepth 100000 in
set_option maxHeartbeats 8000000 in
theorem drawChangeStripe_any (v : Value) (l : List UInt8) (w : World) (hv : Seen w v (bys l)) : Calls Tryd.prog 24 #[v] w (RetTIS w) := by
  obtain ⟨A, c, hvv⟩ := hv.len
  rw [bys_length] at hvv
  subst hvv
  have a0 := turn_alloc w (.cells #[.slice none 0 0, .slice none 0 0] 25)
  have z0 : w.heap.size + 1 ≤ (w.alloc (.cells #[.slice none 0 0, .slice none 0 0] 25)).heap.size := by simp
  have z0b : (w.alloc (.cells #[.slice none 0 0, .slice none 0 0] 25)).heap.size ≤ w.heap.size + 1 := by simp
  have hR0 : KeptR (w.alloc (.cells #[.slice none 0 0, .slice none 0 0] 25)) w.heap.size := ⟨alloc_duo0 _ _ _ _, alloc_duo1 _ _ _ _, alloc_frz _ _ _ _, alloc_frz _ _ _ _⟩
  have hc : CurAt ((w.alloc (.cells #[.slice none 0 0, .slice none 0 0] 25)).alloc (.cells #[.slice A l.length c, .int .i64 0, .int .u64 0] 62)) (w.heap.size + 1) (.slice A l.length c) 0 := by
    have h := cur_new (hv.touch a0)
    rwa [World.size_alloc] at h
  have a1 := turn_alloc (w.alloc (.cells #[.slice none 0 0, .slice none 0 0] 25)) (.cells #[.slice A l.length c, .int .i64 0, .int .u64 0] 62)
  have z1 : w.heap.size + 2 ≤ ((w.alloc (.cells #[.slice none 0 0, .slice none 0 0] 25)).alloc (.cells #[.slice A l.length c, .int .i64 0, .int .u64 0] 62)).heap.size := by simp
  have HR1 := Lib.hid (hR0.turn a1 (by omega))
  have k01 := turn_trans a0 a1 (by omega)
  clear hR0 hv
  go_enter Tryd.func24, Tryd.ntmps24
  go_wp2_with fail
  refine (stripe_any _ _ 0 _ hc (by omega)).mono ?_
  generalize ((w.alloc (.cells #[.slice none 0 0, .slice none 0 0] 25)).alloc (.cells #[.slice A l.length c, .int .i64 0, .int .u64 0] 62)) = w0 at *
  rintro e w1 ⟨x, y, t, lo, mid, hi, rfl, oD, oP, hb, hT, hc1, k1⟩
  obtain ⟨A1, c1, hx1⟩ := oD.seen.len
  obtain ⟨B1, d1, hy1⟩ := oP.seen.len
  rw [strs_length] at hx1 hy1
  subst hx1 hy1
  obtain ⟨hT1, hT2⟩ := hT
  obtain ⟨hb1, hb2, hb3, hb4⟩ := hb
  have HT2 := Lib.hid hT2
  have s1 := k1.size
  have HR2 := Lib.hid (keptR_turn HR1.out (by omega) k1 (by omega))
  have kk := turn_trans k01 k1 (by omega)
  have HD := Lib.hid oD
  have HP := Lib.hid oP
  have HN1 : Hid (t.1.length = t.1.length) := rfl
  clear HR1 hc a0 a1 k01 k1 z0 z0b hT2 oD oP
  generalize hn1 : t.1.length = n1 at *
  generalize hn2 : t.2.length = n2 at *
  have HNN := Lib.hid hn1
  clear hn1 hn2 HN1
  have a2 := turn_alloc w1 (.cells #[.slice A1 n1 c1, .slice B1 n2 d1] 25)
  have z2 : w1.heap.size + 1 ≤ (w1.alloc (.cells #[.slice A1 n1 c1, .slice B1 n2 d1] 25)).heap.size := by simp
  have t0 := alloc_duo0 w1 (.slice A1 n1 c1) (.slice B1 n2 d1) 25
  have t1 := alloc_duo1 w1 (.slice A1 n1 c1) (.slice B1 n2 d1) 25
  have hc2 := hc1.keep a2 (by omega)
  have HR3 := Lib.hid (HR2.out.turn a2 (by omega))
  have HD3 := Lib.hid (HD.out.keep a2 (by omega))
  have HP3 := Lib.hid (HP.out.keep a2 (by omega))
  have HK3 := Lib.hid (turn_trans kk a2 (by omega))
  clear a2 hc1 HR2 HD HP kk
  by_cases hpos : 0 < n1
  · have hpi : (0 : Int) < (n1 : Int) := by omega
    obtain ⟨gd, cpd, hvd, hgd1, hgd2, hgd3, hgd4, hcelld, hfzd⟩ := HD3.out.shape (by rw [HNN.out]; exact hpos)
    rw [HNN.out] at hvd
    obtain ⟨rfl, rfl⟩ : A1 = some ⟨gd, 0, none⟩ ∧ c1 = cpd := by simpa using hvd
    have hcd := hcelld 0 (by rw [HNN.out]; exact hpos)
    have hx40 : (t.1.getD 0 []).length ≤ 40 := HT2.out _ (getD_mem (by rw [HNN.out]; exact hpos))
    have hsz := str_size (t.1.getD 0 [])
    generalize t.1.getD 0 [] = xx at *
    clear hvd hcelld hfzd hgd3 hgd4
    go_wp2_with fail
    generalize (w1.alloc (.cells #[.slice (some ⟨gd, 0, none⟩) n1 c1, .slice B1 n2 d1] 25)) = w2 at *
    have hS : (fun W : World => W.cell? ⟨w1.heap.size, 0, none⟩ = some (.slice (some ⟨gd, 0, none⟩) n1 c1) ∧ W.cell? ⟨w1.heap.size, 1, none⟩ = some (.slice B1 n2 d1)) w2.drew := ⟨t0, t1⟩
    refine wp_region_tail (fun W : World => W.cell? ⟨w1.heap.size, 0, none⟩ = some (.slice (some ⟨gd, 0, none⟩) n1 c1) ∧ W.cell? ⟨w1.heap.size, 1, none⟩ = some (.slice B1 n2 d1)) 13 (by kernel_rfl) ?_
    refine wpAnyT_take (i := 0) (oi := _) (v := ?va0) rfl (by kernel_rfl) (by kernel_rfl) (by kernel_rfl) (by kernel_rfl) (fun _ _ _ h => h) (Or.inl ⟨by rfl, ?hya0⟩) hS ?resta0
    case hya0 => (intro W hW; obtain ⟨e1, e2⟩ := hW; go_simp; try with_reducible rfl)
    simp only [Act.put, List.setIfInBounds_toArray, List.set_cons_zero, List.set_cons_succ]
    refine wpAnyT_take (i := 1) (oi := _) (v := ?va1) rfl (by kernel_rfl) (by kernel_rfl) (by kernel_rfl) (by kernel_rfl) (fun _ _ _ h => h) (Or.inl ⟨by rfl, ?hya1⟩) hS ?resta1
    case hya1 => (intro W hW; obtain ⟨e1, e2⟩ := hW; go_simp; try with_reducible rfl)
    simp only [Act.put, List.setIfInBounds_toArray, List.set_cons_zero, List.set_cons_succ]
    refine wpAnyT_take (i := 2) (oi := _) (v := ?va2) rfl (by kernel_rfl) (by kernel_rfl) (by kernel_rfl) (by kernel_rfl) (fun _ _ _ h => h) (Or.inl ⟨by rfl, ?hya2⟩) hS ?resta2
    case hya2 => (intro W hW; obtain ⟨e1, e2⟩ := hW; go_simp; try with_reducible rfl)
    simp only [Act.put, List.setIfInBounds_toArray, List.set_cons_zero, List.set_cons_succ]
    refine wpAnyT_take (i := 3) (oi := _) (v := ?va3) rfl (by kernel_rfl) (by kernel_rfl) (by kernel_rfl) (by kernel_rfl) (fun _ _ _ h => h) (Or.inl ⟨by rfl, ?hya3⟩) hS ?resta3
    case hya3 => (intro W hW; obtain ⟨e1, e2⟩ := hW; go_simp; try with_reducible rfl)
    simp only [Act.put, List.setIfInBounds_toArray, List.set_cons_zero, List.set_cons_succ]
    refine wpAnyT_take (i := 4) (oi := _) (v := ?va4) rfl (by kernel_rfl) (by kernel_rfl) (by kernel_rfl) (by kernel_rfl) (fun _ _ _ h => h) (Or.inl ⟨by rfl, ?hya4⟩) hS ?resta4
    case hya4 => (intro W hW; obtain ⟨e1, e2⟩ := hW; go_simp; try with_reducible rfl)
    simp only [Act.put, List.setIfInBounds_toArray, List.set_cons_zero, List.set_cons_succ]
    refine wpAnyT_take (i := 5) (oi := _) (v := ?va5) rfl (by kernel_rfl) (by kernel_rfl) (by kernel_rfl) (by kernel_rfl) (fun _ _ _ h => h) (Or.inl ⟨by rfl, ?hya5⟩) hS ?resta5
    case hya5 => (intro W hW; obtain ⟨e1, e2⟩ := hW; go_simp; try with_reducible rfl)
    simp only [Act.put, List.setIfInBounds_toArray, List.set_cons_zero, List.set_cons_succ]
    refine wpAnyT_take (i := 8) (oi := _) (v := ?va8) rfl (by kernel_rfl) (by kernel_rfl) (by kernel_rfl) (by kernel_rfl) (fun _ _ _ h => h) (Or.inl ⟨by rfl, ?hya8⟩) hS ?resta8
    case hya8 => (intro W hW; obtain ⟨e1, e2⟩ := hW; go_simp; try with_reducible rfl)
    simp only [Act.put, List.setIfInBounds_toArray, List.set_cons_zero, List.set_cons_succ]
    refine wpAnyT_take (i := 9) (oi := _) (v := ?va9) rfl (by kernel_rfl) (by kernel_rfl) (by kernel_rfl) (by kernel_rfl) (fun _ _ _ h => h) (Or.inl ⟨by rfl, ?hya9⟩) hS ?resta9
    case hya9 => (intro W hW; obtain ⟨e1, e2⟩ := hW; go_simp; try with_reducible rfl)
    simp only [Act.put, List.setIfInBounds_toArray, List.set_cons_zero, List.set_cons_succ]
    have hwr : IntKind.i64.wrap ((n1 : Int) + 2) = (n1 : Int) + 2 := IntWalk.i64_in _ (by omega)
    simp only [hwr]
    refine wpAnyT_one (i := 6) (o := _) rfl (by kernel_rfl) (fun K hK => ?_)
    go_simp
    refine (pick_any (w.heap.size + 1) _ _ ((n1 : Int) + 2) _ (show CurAt w2.drew (w.heap.size + 1) _ _ from hc2) (by omega)).mono ?_
    rintro e w3 ⟨r, rfl, ra, rb, hc3, k3'⟩
    have k3 := undrew k3'
    have s3 := k3.size
    have u0 := cell_keepT t0 (by omega) k3 (by omega)
    have u1 := cell_keepT t1 (by omega) k3 (by omega)
    have hr : r ≤ 17 := by
      unfold pickHi at rb
      split at rb <;> omega
    refine hK.out _ _ (fun _ => ⟨u0, u1⟩) ?_
    clear hK K rb
    have hS3 := And.intro u0 u1
    try simp only [Act.put, List.setIfInBounds_toArray, List.set_cons_zero, List.set_cons_succ]
    refine wpAnyT_take (i := 7) (oi := _) (v := ?va7) rfl (by kernel_rfl) (by kernel_rfl) (by kernel_rfl) (by kernel_rfl) (fun _ _ _ h => h) (Or.inl ⟨by rfl, ?hya7⟩) hS3 ?resta7
    case hya7 => (intro W hW; obtain ⟨e1, e2⟩ := hW; go_simp; try with_reducible rfl)
    have hwr2 : IntKind.i64.wrap (r - 1) = r - 1 := IntWalk.i64_in _ (by omega)
    simp only [hwr2]
    try simp only [Act.put, List.setIfInBounds_toArray, List.set_cons_zero, List.set_cons_succ]
    refine wpAnyT_one (i := 10) (o := _) rfl (by kernel_rfl) (fun K hK => ?_)
    go_simp
    refine (text_any (w.heap.size + 1) _ _ xx.length _ hc3 (by omega)).mono ?_
    rintro e w4 ⟨tx, rfl, htx, hc4, k4⟩
    have s4 := k4.size
    have x0 := cell_keepT u0 (by omega) k4 (by omega)
    have x1 := cell_keepT u1 (by omega) k4 (by omega)
    refine hK.out _ _ (fun _ => ⟨x0, x1⟩) ?_
    clear hK K
    have k34 := turn_trans k3 k4 (by omega)
    have HR5 := Lib.hid (keptR_turn HR3.out (by omega) k34 (by omega))
    have HD5 := Lib.hid (HD3.out.keep k34 (by omega))
    have HP5 := Lib.hid (HP3.out.keep k34 (by omega))
    have HK5 := Lib.hid (turn_trans HK3.out k34 (by omega))
    have HTX : Hid (tx.length ≤ 40) := Lib.hid (by rw [htx]; omega)
    obtain ⟨q0, q1, g0, g1⟩ := HR5.out
    try simp only [Act.put, List.setIfInBounds_toArray, List.set_cons_zero, List.set_cons_succ]
    refine wpAnyT_one (i := 11) (o := _) rfl (by kernel_rfl) (fun K hK => ?_)
    go_simp
    refine hK.out _ _ (fun _ => ⟨(cell_set_other _ _ _ _ (by omega)).trans ((cell_set_other _ _ _ _ (by omega)).trans x0), (cell_set_other _ _ _ _ (by omega)).trans ((cell_set_other _ _ _ _ (by omega)).trans x1)⟩) ?_
    clear hK K
    try simp only [Act.put, List.setIfInBounds_toArray, List.set_cons_zero, List.set_cons_succ]
    refine wpAnyT_one (i := 12) (o := _) rfl (by kernel_rfl) (fun K hK => ?_)
    go_simp
    refine hK.out _ _ (fun _ => ⟨(cell_set_other _ _ _ _ (by omega)).trans ((cell_set_other _ _ _ _ (by omega)).trans x0), (cell_set_other _ _ _ _ (by omega)).trans ((cell_set_other _ _ _ _ (by omega)).trans x1)⟩) ?_
    clear hK K
    try simp only [Act.put, List.setIfInBounds_toArray, List.set_cons_zero, List.set_cons_succ]
    refine wpAnyT_one (i := 13) (o := _) rfl (by kernel_rfl) (fun K hK => ?_)
    go_simp
    refine hK.out _ _ (fun h => absurd rfl h) ?_
    clear hK K
    try simp only [Act.put, List.setIfInBounds_toArray, List.set_cons_zero, List.set_cons_succ]
    refine wpAnyT_done (by kernel_rfl) ?_ _
    have j0 := turn_setCell w4 w.heap.size 0 (.slice (some ⟨gd, 0, none⟩) n1 c1)
    have j1 := turn_setCell (w4.setCell ⟨w.heap.size, 0, none⟩ (.slice (some ⟨gd, 0, none⟩) n1 c1)) w.heap.size 1 (.slice B1 n2 d1)
    have HE : Hid (RetTIS w (.returned (.tuple #[.agg #[.slice (some ⟨gd, 0, none⟩) n1 c1, .slice B1 n2 d1], .int .i64 (r - 1), .string (str tx)])) ((w4.setCell ⟨w.heap.size, 0, none⟩ (.slice (some ⟨gd, 0, none⟩) n1 c1)).setCell ⟨w.heap.size, 1, none⟩ (.slice B1 n2 d1))) :=
      Lib.hid ⟨_, _, t, r - 1, tx, rfl, ((HD5.out.keep j0 (by omega)).keep j1 (by omega)).seen, ((HP5.out.keep j0 (by omega)).keep j1 (by omega)).seen, ⟨by omega, by omega, HTX.out⟩, turn_trans (turn_trans HK5.out j0 (by omega)) j1 (by omega)⟩
    clear j0 j1 k34 k3 k3' k4 u0 u1
    go_wp2_with fail
    refine bodyPost_ret (v := .tuple #[.agg #[.slice (some ⟨gd, 0, none⟩) n1 c1, .slice B1 n2 d1], .int .i64 (r - 1), .string (str tx)]) (by simp [results, Tryd.results24, go_sem, q0, q1, g0, g1]) rfl ?_
    exact HE.out
  · have hpi : ¬ (0 : Int) < (n1 : Int) := by omega
    go_wp2_with fail
    generalize (w1.alloc (.cells #[.slice A1 n1 c1, .slice B1 n2 d1] 25)) = w2 at *
    have hS : (fun W : World => W.cell? ⟨w1.heap.size, 0, none⟩ = some (.slice A1 n1 c1) ∧ W.cell? ⟨w1.heap.size, 1, none⟩ = some (.slice B1 n2 d1)) w2.drew := ⟨t0, t1⟩
    refine wp_region_tail (fun W : World => W.cell? ⟨w1.heap.size, 0, none⟩ = some (.slice A1 n1 c1) ∧ W.cell? ⟨w1.heap.size, 1, none⟩ = some (.slice B1 n2 d1)) 13 (by kernel_rfl) ?_
    refine wpAnyT_take (i := 0) (oi := _) (v := ?vb0) rfl (by kernel_rfl) (by kernel_rfl) (by kernel_rfl) (by kernel_rfl) (fun _ _ _ h => h) (Or.inl ⟨by rfl, ?hyb0⟩) hS ?restb0
    case hyb0 => (intro W hW; obtain ⟨e1, e2⟩ := hW; go_simp; try with_reducible rfl)
    simp only [Act.put, List.setIfInBounds_toArray, List.set_cons_zero, List.set_cons_succ]
    refine wpAnyT_take (i := 1) (oi := _) (v := ?vb1) rfl (by kernel_rfl) (by kernel_rfl) (by kernel_rfl) (by kernel_rfl) (fun _ _ _ h => h) (Or.inl ⟨by rfl, ?hyb1⟩) hS ?restb1
    case hyb1 => (intro W hW; obtain ⟨e1, e2⟩ := hW; go_simp; try with_reducible rfl)
    simp only [Act.put, List.setIfInBounds_toArray, List.set_cons_zero, List.set_cons_succ]
    refine wpAnyT_take (i := 2) (oi := _) (v := ?vb2) rfl (by kernel_rfl) (by kernel_rfl) (by kernel_rfl) (by kernel_rfl) (fun _ _ _ h => h) (Or.inl ⟨by rfl, ?hyb2⟩) hS ?restb2
    case hyb2 => (intro W hW; obtain ⟨e1, e2⟩ := hW; go_simp; try with_reducible rfl)
    simp only [Act.put, List.setIfInBounds_toArray, List.set_cons_zero, List.set_cons_succ]
    refine wpAnyT_take (i := 3) (oi := _) (v := ?vb3) rfl (by kernel_rfl) (by kernel_rfl) (by kernel_rfl) (by kernel_rfl) (fun _ _ _ h => h) (Or.inl ⟨by rfl, ?hyb3⟩) hS ?restb3
    case hyb3 => (intro W hW; obtain ⟨e1, e2⟩ := hW; go_simp; try with_reducible rfl)
    simp only [Act.put, List.setIfInBounds_toArray, List.set_cons_zero, List.set_cons_succ]
    refine wpAnyT_take (i := 4) (oi := _) (v := ?vb4) rfl (by kernel_rfl) (by kernel_rfl) (by kernel_rfl) (by kernel_rfl) (fun _ _ _ h => h) (Or.inl ⟨by rfl, ?hyb4⟩) hS ?restb4
    case hyb4 => (intro W hW; obtain ⟨e1, e2⟩ := hW; go_simp; try with_reducible rfl)
    simp only [Act.put, List.setIfInBounds_toArray, List.set_cons_zero, List.set_cons_succ]
    refine wpAnyT_take (i := 5) (oi := _) (v := ?vb5) rfl (by kernel_rfl) (by kernel_rfl) (by kernel_rfl) (by kernel_rfl) (fun _ _ _ h => h) (Or.inl ⟨by rfl, ?hyb5⟩) hS ?restb5
    case hyb5 => (intro W hW; obtain ⟨e1, e2⟩ := hW; go_simp; try with_reducible rfl)
    simp only [Act.put, List.setIfInBounds_toArray, List.set_cons_zero, List.set_cons_succ]
    refine wpAnyT_take (i := 8) (oi := _) (v := ?vb8) rfl (by kernel_rfl) (by kernel_rfl) (by kernel_rfl) (by kernel_rfl) (fun _ _ _ h => h) (Or.inl ⟨by rfl, ?hyb8⟩) hS ?restb8
    case hyb8 => (intro W hW; obtain ⟨e1, e2⟩ := hW; go_simp; try with_reducible rfl)
    simp only [Act.put, List.setIfInBounds_toArray, List.set_cons_zero, List.set_cons_succ]
    refine wpAnyT_take (i := 9) (oi := _) (v := ?vb9) rfl (by kernel_rfl) (by kernel_rfl) (by kernel_rfl) (by kernel_rfl) (fun _ _ _ h => h) (Or.inl ⟨by rfl, ?hyb9⟩) hS ?restb9
    case hyb9 => (intro W hW; obtain ⟨e1, e2⟩ := hW; go_simp; try with_reducible rfl)
    simp only [Act.put, List.setIfInBounds_toArray, List.set_cons_zero, List.set_cons_succ]
    have hwr : IntKind.i64.wrap ((n1 : Int) + 2) = (n1 : Int) + 2 := IntWalk.i64_in _ (by omega)
    simp only [hwr]
    refine wpAnyT_one (i := 6) (o := _) rfl (by kernel_rfl) (fun K hK => ?_)
    go_simp
    refine (pick_any (w.heap.size + 1) _ _ ((n1 : Int) + 2) _ (show CurAt w2.drew (w.heap.size + 1) _ _ from hc2) (by omega)).mono ?_
    rintro e w3 ⟨r, rfl, ra, rb, hc3, k3'⟩
    have k3 := undrew k3'
    have s3 := k3.size
    have u0 := cell_keepT t0 (by omega) k3 (by omega)
    have u1 := cell_keepT t1 (by omega) k3 (by omega)
    have hr : r ≤ 17 := by
      unfold pickHi at rb
      split at rb <;> omega
    refine hK.out _ _ (fun _ => ⟨u0, u1⟩) ?_
    clear hK K rb
    have hS3 := And.intro u0 u1
    try simp only [Act.put, List.setIfInBounds_toArray, List.set_cons_zero, List.set_cons_succ]
    refine wpAnyT_take (i := 7) (oi := _) (v := ?vb7) rfl (by kernel_rfl) (by kernel_rfl) (by kernel_rfl) (by kernel_rfl) (fun _ _ _ h => h) (Or.inl ⟨by rfl, ?hyb7⟩) hS3 ?restb7
    case hyb7 => (intro W hW; obtain ⟨e1, e2⟩ := hW; go_simp; try with_reducible rfl)
    have hwr2 : IntKind.i64.wrap (r - 1) = r - 1 := IntWalk.i64_in _ (by omega)
    simp only [hwr2]
    try simp only [Act.put, List.setIfInBounds_toArray, List.set_cons_zero, List.set_cons_succ]
    refine wpAnyT_one (i := 10) (o := _) rfl (by kernel_rfl) (fun K hK => ?_)
    go_simp
    refine (text_any (w.heap.size + 1) _ _ 2 _ hc3 (by omega)).mono ?_
    rintro e w4 ⟨tx, rfl, htx, hc4, k4⟩
    have s4 := k4.size
    have x0 := cell_keepT u0 (by omega) k4 (by omega)
    have x1 := cell_keepT u1 (by omega) k4 (by omega)
    refine hK.out _ _ (fun _ => ⟨x0, x1⟩) ?_
    clear hK K
    have k34 := turn_trans k3 k4 (by omega)
    have HR5 := Lib.hid (keptR_turn HR3.out (by omega) k34 (by omega))
    have HD5 := Lib.hid (HD3.out.keep k34 (by omega))
    have HP5 := Lib.hid (HP3.out.keep k34 (by omega))
    have HK5 := Lib.hid (turn_trans HK3.out k34 (by omega))
    have HTX : Hid (tx.length ≤ 40) := Lib.hid (by rw [htx]; omega)
    obtain ⟨q0, q1, g0, g1⟩ := HR5.out
    try simp only [Act.put, List.setIfInBounds_toArray, List.set_cons_zero, List.set_cons_succ]
    refine wpAnyT_one (i := 11) (o := _) rfl (by kernel_rfl) (fun K hK => ?_)
    go_simp
    refine hK.out _ _ (fun _ => ⟨(cell_set_other _ _ _ _ (by omega)).trans ((cell_set_other _ _ _ _ (by omega)).trans x0), (cell_set_other _ _ _ _ (by omega)).trans ((cell_set_other _ _ _ _ (by omega)).trans x1)⟩) ?_
    clear hK K
    try simp only [Act.put, List.setIfInBounds_toArray, List.set_cons_zero, List.set_cons_succ]
    refine wpAnyT_one (i := 12) (o := _) rfl (by kernel_rfl) (fun K hK => ?_)
    go_simp
    refine hK.out _ _ (fun _ => ⟨(cell_set_other _ _ _ _ (by omega)).trans ((cell_set_other _ _ _ _ (by omega)).trans x0), (cell_set_other _ _ _ _ (by omega)).trans ((cell_set_other _ _ _ _ (by omega)).trans x1)⟩) ?_
    clear hK K
    try simp only [Act.put, List.setIfInBounds_toArray, List.set_cons_zero, List.set_cons_succ]
    refine wpAnyT_one (i := 13) (o := _) rfl (by kernel_rfl) (fun K hK => ?_)
    go_simp
    refine hK.out _ _ (fun h => absurd rfl h) ?_
    clear hK K
    try simp only [Act.put, List.setIfInBounds_toArray, List.set_cons_zero, List.set_cons_succ]
    refine wpAnyT_done (by kernel_rfl) ?_ _
    have j0 := turn_setCell w4 w.heap.size 0 (.slice A1 n1 c1)
    have j1 := turn_setCell (w4.setCell ⟨w.heap.size, 0, none⟩ (.slice A1 n1 c1)) w.heap.size 1 (.slice B1 n2 d1)
    have HE : Hid (RetTIS w (.returned (.tuple #[.agg #[.slice A1 n1 c1, .slice B1 n2 d1], .int .i64 (r - 1), .string (str tx)])) ((w4.setCell ⟨w.heap.size, 0, none⟩ (.slice A1 n1 c1)).setCell ⟨w.heap.size, 1, none⟩ (.slice B1 n2 d1))) :=
      Lib.hid ⟨_, _, t, r - 1, tx, rfl, ((HD5.out.keep j0 (by omega)).keep j1 (by omega)).seen, ((HP5.out.keep j0 (by omega)).keep j1 (by omega)).seen, ⟨by omega, by omega, HTX.out⟩, turn_trans (turn_trans HK5.out j0 (by omega)) j1 (by omega)⟩
    clear j0 j1 k34 k3 k3' k4 u0 u1
    go_wp2_with fail
    refine bodyPost_ret (v := .tuple #[.agg #[.slice A1 n1 c1, .slice B1 n2 d1], .int .i64 (r - 1), .string (str tx)]) (by simp [results, Tryd.results24, go_sem, q0, q1, g0, g1]) rfl ?_
    exact HE.out

end Go.Proofs.YtfglkgeeelapgaaDoor
