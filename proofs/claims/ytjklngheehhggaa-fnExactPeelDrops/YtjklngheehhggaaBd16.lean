/- Joined texts: StpI. -/
import Derived.Test.YtjklngheehhggaaBd15
set_option linter.unusedSimpArgs false
set_option linter.unusedVariables false
/- Chapter 9: StepPeel, the program's. -/
namespace G294
open Go Go.RowKit
theorem box3_turn' {W W' : World} {B : Nat} {x y z : Value} {W0 : World} (h : W.cell? ⟨B, 0, none⟩ = some x ∧ W.cell? ⟨B, 1, none⟩ = some y ∧ W.cell? ⟨B, 2, none⟩ = some z ∧ TurnIn 0 0 W0 W) (hB : B < W0.heap.size) (t : TurnIn 0 0 W W') :
    W'.cell? ⟨B, 0, none⟩ = some x ∧ W'.cell? ⟨B, 1, none⟩ = some y ∧ W'.cell? ⟨B, 2, none⟩ = some z ∧ TurnIn 0 0 W0 W' := by
  obtain ⟨h0, h1, h2, k⟩ := h
  have := k.size
  exact ⟨cell_turn t h0 (by omega), cell_turn t h1 (by omega), cell_turn t h2 (by omega), turn_trans k t (by omega)⟩
theorem peeN_b {n : Nat} {p : Pee} (h : peeN n p = true) : PeeP n p := by
  simp only [peeN, bcOk, Bool.and_eq_true, decide_eq_true_eq, List.all_eq_true, List.mem_range] at h
  obtain ⟨h1, h2, h3, h4⟩ := h
  exact ⟨by omega, by omega, h2, h3, h4⟩
theorem PeeP.texts {n : Nat} {p : Pee} (h : PeeP n p) (hn : n ≤ 1000000) : ∀ t ∈ p.1, t.length ≤ 1000000 := by
  intro t ht
  obtain ⟨i, hi, rfl⟩ := List.mem_iff_getElem.1 ht
  have := h.len i hi
  rw [getD_lt hi []] at this
  rw [this]; split <;> omega
theorem PeeP.many_le {n : Nat} {p : Pee} (h : PeeP n p) : 0 ≤ p.2.2 ∧ p.2.2 ≤ 12 := by
  have h1 := h.many
  have h2 := List.length_filter_le (fun k => knw p k) (List.range p.1.length)
  have h3 := h.b2
  rw [List.length_range] at h2
  omega
theorem stp_none {l : List Sh} {p : Pee} (h : ∀ (i : Nat) (d : Sh), i < l.length → l[i]? = some d → oneStep d p = none) : stpOk l p = false ∧ stpR l p = ([], [], 0) := stpOk_none (stepP_none h)
theorem stp_hit {l : List Sh} {p : Pee} {k q : Nat} {d : Sh} (hl : dropsOk l = true) (hp : peeN (l.getD 0 (0, [])).2.length p = true) (h : ∀ (i : Nat) (d : Sh), i < k → l[i]? = some d → oneStep d p = none) (hd : l[k]? = some d) (hq : unk p (blkN d.1.toNat p.1.length) = [q]) : stpOk l p = true ∧ stpR l p = putP p q (pdat d p) :=
  stpOk_step hl hp (stepP_at h hd (oneStep_one hq))
end G294
namespace Go.Proofs.Ytjklngheehhggaa
open Go.RowKit G294

set_option maxRecDepth 100000 in
set_option maxHeartbeats 8000000 in
theorem stepPeel_own (vl v u : Value) (l : List Sh) (p : Pee) (w : World) (hvl : SeenH w vl l) (hv : Seen w v (strs p.1)) (hu : Seen w u (bls p.2.1)) :
    Calls Try.prog 26 #[vl, .agg #[v, u, .int .i64 p.2.2]] w (RetPOk 9 4 w (stpR l p) (stpOk l p)) := by
  have HVL := Lib.hid hvl
  have HV := Lib.hid hv
  have HU := Lib.hid hu
  obtain ⟨AL, cl, rfl, hlcl, hlcm, hlx⟩ := hvl
  obtain ⟨A, c, hvv⟩ := hv.len
  rw [strs_length] at hvv
  subst hvv
  obtain ⟨B, d, huu⟩ := hu.len
  rw [bls_length] at huu
  subst huu
  unfold maxLen at hlcm
  have a1 := turn_alloc w (.cells #[.slice A p.1.length c, .slice B p.2.1.length d, .int .i64 p.2.2] 33)
  have e0 := alloc_tri0 w (.slice A p.1.length c) (.slice B p.2.1.length d) (.int .i64 p.2.2) 33
  have e1 := alloc_tri1 w (.slice A p.1.length c) (.slice B p.2.1.length d) (.int .i64 p.2.2) 33
  have e2 := alloc_tri2 w (.slice A p.1.length c) (.slice B p.2.1.length d) (.int .i64 p.2.2) 33
  have z1 := World.size_alloc w (.cells #[.slice A p.1.length c, .slice B p.2.1.length d, .int .i64 p.2.2] 33)
  have a2 := turn_alloc (w.alloc (.cells #[.slice A p.1.length c, .slice B p.2.1.length d, .int .i64 p.2.2] 33)) (.cells #[.slice none 0 0, .slice none 0 0, .int .i64 0] 33)
  have z2 := World.size_alloc (w.alloc (.cells #[.slice A p.1.length c, .slice B p.2.1.length d, .int .i64 p.2.2] 33)) (.cells #[.slice none 0 0, .slice none 0 0, .int .i64 0] 33)
  have HR := Lib.hid (boxT_new (w.alloc (.cells #[.slice A p.1.length c, .slice B p.2.1.length d, .int .i64 p.2.2] 33)) (.slice none 0 0) (.slice none 0 0) (.int .i64 0) 33)
  rw [World.size_alloc] at HR
  replace e0 := cell_turn a2 e0 (by omega)
  replace e1 := cell_turn a2 e1 (by omega)
  replace e2 := cell_turn a2 e2 (by omega)
  have k12 := turn_trans a1 a2 (by omega)
  have HKA := Lib.hid k12
  generalize hwa : ((w.alloc (.cells #[.slice A p.1.length c, .slice B p.2.1.length d, .int .i64 p.2.2] 33)).alloc (.cells #[.slice none 0 0, .slice none 0 0, .int .i64 0] 33)) = wa at *
  have HWA := Lib.hid hwa
  have hlt0 : w.heap.size < wa.heap.size := by omega
  have hlt1 : w.heap.size + 2 ≤ wa.heap.size := by omega
  have HG1 := Lib.hid (fun pg : Grew wa => grew_bool (goodDrops_any _ l pg.at_ (HVL.out.below (HKA.out.to_below.trans (pg.old.mono (by omega))))))
  clear hv hu a1 a2 z1 z2 k12 hwa
  by_cases h1 : dropsOk l = true
  · have H1 := Lib.hid h1
    obtain ⟨hl40, hlall⟩ := dropsOk_len h1
    by_cases hne : l.length = 0
    · have HF := Lib.hid (show stpOk l p = false ∧ stpR l p = ([], [], 0) by rw [List.length_eq_zero_iff.1 hne]; exact stpOk_none rfl)
      have hle : (((l.length : Nat) : Int) == 0) = true := by rw [hne]; rfl
      clear h1 hlall hlx hne
      rw [H1.out] at HG1
      generalize l.length = nl at *
      go_enter Try.func26, Try.ntmps26
      go_wp2_with (simp only [HWA.out])
      obtain ⟨y0, y1, y2, y3, y4, y5, y6⟩ := HR.out
      have g0 := grew_cell e0 hlt0
      have g1 := grew_cell e1 hlt0
      have g2 := grew_cell e2 hlt0
      refine wp_region_grew (by kernel_rfl) (by kernel_rfl) ?_
      repeat (first | go_big_quiet_skip | quiet_step ((go_at_call 37; exact HG1.out _)))
      refine wpQuiet_nil ?_
      intro wc hcut
      obtain ⟨pg, rfl⟩ := hcut
      have k5 := TurnIn.of_below pg.old
      generalize pg.at_ = wc at *
      replace y0 := cell_turn k5 y0 (by omega)
      replace y1 := cell_turn k5 y1 (by omega)
      replace y2 := cell_turn k5 y2 (by omega)
      replace y3 := frozen_turn k5 y3 (by omega)
      replace y4 := frozen_turn k5 y4 (by omega)
      replace y5 := frozen_turn k5 y5 (by omega)
      have kk := turn_trans HKA.out k5 (by omega)
      have kS := turn_set3 wc (w.heap.size + 1) (.slice none 0 0) (.slice none 0 0) (.int .i64 0)
      have s5 := k5.size
      have kend := turn_old kk kS (by omega)
      have send := kend.size
      go_wp2_with fail
      refine bodyPost_ret (v := .tuple #[.agg #[.slice none 0 0, .slice none 0 0, .int .i64 0], .bool false]) (by simp [results, Try.results26, go_sem, y0, y1, y2, y3, y4, y5]) rfl ?_
      exact ⟨_, _, by rw [HF.out.1, HF.out.2], by rw [HF.out.2]; exact OwnP.nil _ _ _ _ send, kend⟩
    · have hlpos : 0 < l.length := by omega
      have hle : (((l.length : Nat) : Int) == 0) = false := by rw [beq_eq_false_iff_ne]; omega
      obtain ⟨bl, ol, rfl, hbl, hcl⟩ := hlx hlpos
      obtain ⟨⟨no0, s0⟩, hk0⟩ := at_lt (k := 0) (rfl : l.length = l.length) hlpos
      have hc0 := (hcl 0 _ hk0).2
      simp only [Nat.zero_mul, Nat.add_zero] at hc0
      have hln : (l.getD 0 (0, [])).2.length = s0.length := by simp [List.getD, hk0]
      have hs0 := str_size s0
      have hs40 : s0.length ≤ 40 := by
        have := (hlall (no0, s0) (List.mem_of_getElem? hk0)).2.2.2
        exact this
      have HCL := Lib.hid hcl
      have HD0 := Lib.hid (cell_turn HKA.out hc0 hbl)
      have HBL := Lib.hid hbl
      have HG2 := Lib.hid (fun pg : Grew wa => grew_bool (goodPeel_any _ _ p s0.length pg.at_ (HV.out.below (HKA.out.to_below.trans (pg.old.mono (by omega)))) (HU.out.below (HKA.out.to_below.trans (pg.old.mono (by omega)))) (by omega)))
      have HLALL := Lib.hid hlall
      have HLN := Lib.hid hln
      by_cases h2 : peeN s0.length p = true
      · have HP := Lib.hid (peeN_b h2)
        have H2 := Lib.hid h2
        have HHIT : Hid (∀ (k q : Nat) (d : Sh), (∀ (i : Nat) (d : Sh), i < k → l[i]? = some d → oneStep d p = none) → l[k]? = some d → unk p (blkN d.1.toNat p.1.length) = [q] → stpOk l p = true ∧ stpR l p = putP p q (pdat d p)) := Lib.hid (fun k q d a b c => stp_hit H1.out (by rw [HLN.out]; exact H2.out) a b c)
        have HNON := Lib.hid (@stp_none l p)
        clear h1 h2 hlall hln hk0 hcl hc0 hlx
        rw [H1.out] at HG1
        rw [H2.out] at HG2
        have hb1 := HP.out.b1
        have hb2 := HP.out.b2
        go_enter Try.func26, Try.ntmps26
        go_wp2_with (simp only [HWA.out])
        have g0 := grew_cell e0 hlt0
        have g1 := grew_cell e1 hlt0
        have g2 := grew_cell e2 hlt0
        have g3 := grew_cell HD0.out (by omega)
        refine wp_region_grew (by kernel_rfl) (by kernel_rfl) ?_
        repeat (first | go_big_quiet_skip | quiet_step ((go_at_call 37; exact HG1.out _)) | quiet_step ((go_at_call 53; exact HG2.out _)))
        refine wpQuiet_nil ?_
        intro wc hcut
        obtain ⟨pg, rfl⟩ := hcut
        have k5 := TurnIn.of_below pg.old
        generalize pg.at_ = wc at *
        clear g0 g1 g2 g3
        have s5 := k5.size
        replace e0 := cell_turn k5 e0 (by omega)
        replace e1 := cell_turn k5 e1 (by omega)
        replace e2 := cell_turn k5 e2 (by omega)
        have HR5 := Lib.hid (HR.out.keep k5 (by omega))
        have HK5 := Lib.hid (turn_trans HKA.out k5 (by omega))
        generalize hwc : wc = w5 at *
        clear hwc HG1 HG2 HD0
        obtain ⟨i0, hi0, hz0, hz1, hz2⟩ := info_parts infoStr
        have HKL := Lib.hid HP.out.kl
        obtain ⟨b, hb⟩ : ∃ b, b = p.1.length := ⟨_, rfl⟩
        have HBB := Lib.hid hb
        rw [← hb] at hb1 hb2 e0
        rw [HKL.out, ← hb] at e1
        clear hb
        generalize hnn : l.length = n at *
        have HN := Lib.hid hnn
        clear hnn
        go_wp2_with (at_make; refine wpList_make_full _ rfl _ _ _ rfl w5.heap.size _ i0 _ 1 Try.underlying30 hi0 hz0 hz1 _ _ _ _ b rfl rfl rfl rfl ?b2 ?b3 ?b4 ?_)
        case b2 => rw [hz2]; omega
        case b3 => unfold maxLen; omega
        case b4 => exact Nat.le_refl _
        intro w6 hown1 hg1
        have hb6 : Below w5.heap.size w5 w6 := below_of_grown hg1 (Nat.le_refl _) (by simp)
        rw [toList_madeCells_one] at hown1
        have hs6 := (hown1.lt w5.heap.size rfl).2
        have hK0 : OwnStrs 9 w6 w5.heap.size (w5.heap.size + 1) (.slice (some ⟨w5.heap.size, 0, none⟩) b b) (List.replicate b []) := ⟨by
          rw [List.length_replicate]
          have e : strs (List.replicate b []) = List.replicate b (.string ⟨#[]⟩) := by unfold strs; rw [List.map_replicate]; rfl
          rw [e]; exact hown1, by omega, fun g e => by simp [Value.ownBlock] at e; omega⟩
        have HK6 := Lib.hid (HK5.out.to_below.trans (hb6.mono (by have := HK5.out.size; omega)))
        have hsz5 := HK5.out.size
        have hw5 : w.heap.size + 2 ≤ w5.heap.size := by omega
        replace e0 := (hb6.cell (p := ⟨w.heap.size, 0, none⟩) (show w.heap.size < w5.heap.size by omega)).trans e0
        replace e1 := (hb6.cell (p := ⟨w.heap.size, 1, none⟩) (show w.heap.size < w5.heap.size by omega)).trans e1
        replace e2 := (hb6.cell (p := ⟨w.heap.size, 2, none⟩) (show w.heap.size < w5.heap.size by omega)).trans e2
        have HR6 := Lib.hid (HR5.out.keep (TurnIn.of_below hb6) (by omega))
        clear hg1 hown1 hb6 HR5
        go_wp2_with fail
        go_loopw [35] (fun i wr => ∃ (k : Nat) (K : List (List UInt8)), k ≤ n ∧ i = .int .i64 k ∧ Hid (∀ (i : Nat) (d : Sh), i < k → l[i]? = some d → oneStep d p = none) ∧ K.length = b ∧ OwnStrs 9 wr w5.heap.size (w5.heap.size + 1) (.slice (some ⟨w5.heap.size, 0, none⟩) b b) K ∧ TurnIn w5.heap.size (w5.heap.size + 1) w6 wr)
          (fun i _ => n - (intOf i).toNat)
        case atStart => exact ⟨0, _, Nat.zero_le _, rfl, (fun _ _ h => by omega), by simp, hK0, ⟨rfl, rfl, rfl, Nat.le_refl _, fun _ _ _ => rfl⟩⟩
        case round =>
          obtain ⟨k, K, hk, rfl, HE, hKl, hKo, kr⟩ := hrel
          have zr := kr.size
          have hbw : Below w.heap.size w wr := kr.base HK6.out (by omega) (by omega)
          replace e0 := cell_keepT e0 (by omega) kr (by omega)
          replace e1 := cell_keepT e1 (by omega) kr (by omega)
          replace e2 := cell_keepT e2 (by omega) kr (by omega)
          have HR7 := Lib.hid (HR6.out.keep kr (by omega))
          clear hK0
          by_cases hlt : k < n
          · obtain ⟨⟨no, s⟩, hks⟩ := at_lt HN.out hlt
            have hc1 := (hbw.cell (p := ⟨bl, ol + k * 2, none⟩) HBL.out).trans (HCL.out k _ hks).1
            have hc2 := (hbw.cell (p := ⟨bl, ol + k * 2 + 1, none⟩) HBL.out).trans (HCL.out k _ hks).2
            simp only at hc1 hc2
            obtain ⟨hn0, hn1, hsl, hs40'⟩ := HLALL.out (no, s) (List.mem_of_getElem? hks)
            simp only at hn0 hn1 hsl hs40'
            rw [HLN.out] at hsl
            obtain ⟨no, rfl⟩ := Int.eq_ofNat_of_zero_le hn0
            have hki : (k : Int) < (n : Int) := by omega
            have HKS := Lib.hid hks
            have ka := turn_alloc wr (.cells #[.int .i64 (no : Int), .string (str s)] 59)
            have d0 := alloc_duo0 wr (.int .i64 (no : Int)) (.string (str s)) 59
            have d1 := alloc_duo1 wr (.int .i64 (no : Int)) (.string (str s)) 59
            have za : wr.heap.size + 1 ≤ (wr.alloc (.cells #[.int .i64 (no : Int), .string (str s)] 59)).heap.size := by rw [World.size_alloc]; exact Nat.le_refl _
            have e0' := cell_turn ka e0 (by omega)
            have e1' := cell_turn ka e1 (by omega)
            have e2' := cell_turn ka e2 (by omega)
            have HSP := Lib.hid (splitBlocks_own no s (.slice A b c) (.slice B b d) _ p K w5.heap.size (w5.heap.size + 1) w (wr.alloc (.cells #[.int .i64 (no : Int), .string (str s)] 59)) (by omega) (by rw [HBB.out]; exact HV.out) (by have h := HU.out; rw [HKL.out, ← HBB.out] at h; exact h) (by rw [← HBB.out]; exact hb1) (by rw [← HBB.out]; exact hb2) HKL.out (hKo.keep ka (by omega)) (by rw [← HBB.out]; exact hKl) (ka.base hbw hbw.size (by omega)) (by omega) (by omega))
            have HBA := Lib.hid (ka.base hbw hbw.size (by omega))
            have HR8 := Lib.hid (HR7.out.keep ka (by omega))
            have HKRA := Lib.hid (turn_trans kr ka (by omega))
            clear hks hKo hKl hn0 ka
            go_wp2_with fail
            refine HSP.out.mono ?_
            rintro e w7 ⟨v7, rfl, o7, oK7, k7⟩
            have s7 := k7.size
            have HKR7 := Lib.hid (turn_trans HKRA.out k7 (by omega))
            have HB7 := Lib.hid (k7.base HBA.out (by omega) (by omega))
            have x0 := cell_keepT e0' (by omega) k7 (by omega)
            have x1 := cell_keepT e1' (by omega) k7 (by omega)
            have x2 := cell_keepT e2' (by omega) k7 (by omega)
            have x3 := cell_keepT d1 (by omega) k7 (by omega)
            have HR9 := Lib.hid (HR8.out.keep k7 (by omega))
            obtain ⟨A7, n7, c7, rfl⟩ := own_isSlice o7.1
            obtain ⟨A7', c7', hv7, hl7, hm7, hx7⟩ := o7.seen
            rw [ints_length, intL_length] at hv7 hl7 hx7
            simp only [Value.slice.injEq] at hv7
            obtain ⟨rfl, rfl, rfl⟩ := hv7
            unfold maxLen at hm7
            by_cases hlen : (unk p (blkN no p.1.length)).length = 1
            · obtain ⟨q, hq⟩ := List.length_eq_one_iff.1 hlen
              obtain ⟨hst1, hst2⟩ := HHIT.out k q ((no : Int), s) HE.out HKS.out (by simpa using hq)
              have hqm := punk_mem (d := ((no : Int), s)) (p := p) (k := q) (by show q ∈ unk p (blkN (no : Int).toNat p.1.length); rw [Int.toNat_natCast, hq]; exact List.mem_singleton.2 rfl)
              obtain ⟨b7, off7, rfl, hbl7, hcell7⟩ := hx7 (by omega)
              have hcq : w7.cell? ⟨b7, off7, none⟩ = some (.int .i64 (q : Int)) := by
                have h := hcell7 0 (.int .i64 (q : Int)) (by rw [hq]; rfl)
                rwa [Nat.add_zero] at h
              have hb7o : wr.heap.size < b7 := by have := (o7.1.lt b7 rfl).1; omega
              have hqp := hqm.1
              have HPD : Hid (sumL (tblK p (blkN no p.1.length)) s = pdat ((no : Int), s) p) := Lib.hid (by have := sum_tbl ((no : Int), s) p; simpa using this)
              have HPL := Lib.hid (plusAll_own s _ _ w7.drew (show Seen w7.drew _ _ from oK7.seen) (fun j hj => by rw [hsl]; exact tblK_len HP.out.len j hj) (by omega))
              rw [HPD.out] at HPL
              have HWB : Hid (∀ W, TurnIn 0 0 w7 W → Calls Try.prog 55 #[.agg #[.slice A b c, .slice B b d, .int .i64 p.2.2], .int .i64 (q : Int), .string (str (pdat ((no : Int), s) p))] W (RetP 9 4 W (putP p q (pdat ((no : Int), s) p)))) := Lib.hid (fun W t => by
                have hbW : Below w.heap.size w W := t.base HB7.out (by omega) (by omega)
                exact withBlock_own _ _ p q _ W ((HBB.out ▸ HV.out : Seen w (.slice A b c) (strs p.1)).below hbW) ((by have h := HU.out; rw [HKL.out, ← HBB.out] at h; exact h : Seen w (.slice B b d) (bls p.2.1)).below hbW) (by rw [← HBB.out]; exact hb1) (by rw [← HBB.out]; exact hb2) HKL.out hqp (HP.out.texts (by omega)) HP.out.many_le)
              generalize pdat ((no : Int), s) p = tx at *
              generalize (unk p (blkN no p.1.length)).length = lu at *
              subst hlen
              have hS0 : w7.drew.cell? ⟨w.heap.size, 0, none⟩ = some (.slice A b c) ∧ w7.drew.cell? ⟨w.heap.size, 1, none⟩ = some (.slice B b d) ∧ w7.drew.cell? ⟨w.heap.size, 2, none⟩ = some (.int .i64 p.2.2) ∧ w7.drew.cell? ⟨wr.heap.size, 1, none⟩ = some (.string (str s)) ∧ w7.drew.cell? ⟨b7, off7, none⟩ = some (.int .i64 (q : Int)) := ⟨x0, x1, x2, x3, hcq⟩
              have HSX : Hid (∀ W, TurnIn 0 0 w7 W → (W.cell? ⟨w.heap.size, 0, none⟩ = some (.slice A b c) ∧ W.cell? ⟨w.heap.size, 1, none⟩ = some (.slice B b d) ∧ W.cell? ⟨w.heap.size, 2, none⟩ = some (.int .i64 p.2.2) ∧ W.cell? ⟨wr.heap.size, 1, none⟩ = some (.string (str s)) ∧ W.cell? ⟨b7, off7, none⟩ = some (.int .i64 (q : Int)))) := Lib.hid (fun W t => ⟨cell_turn t x0 (by omega), cell_turn t x1 (by omega), cell_turn t x2 (by omega), cell_turn t x3 (by omega), cell_turn t hcq hbl7⟩)
              have HSC : Hid (∀ (W : World) (x y z : Value), (W.cell? ⟨w.heap.size, 0, none⟩ = some (.slice A b c) ∧ W.cell? ⟨w.heap.size, 1, none⟩ = some (.slice B b d) ∧ W.cell? ⟨w.heap.size, 2, none⟩ = some (.int .i64 p.2.2) ∧ W.cell? ⟨wr.heap.size, 1, none⟩ = some (.string (str s)) ∧ W.cell? ⟨b7, off7, none⟩ = some (.int .i64 (q : Int))) → ((((W.setCell ⟨w.heap.size + 1, 0, none⟩ x).setCell ⟨w.heap.size + 1, 1, none⟩ y).setCell ⟨w.heap.size + 1, 2, none⟩ z).cell? ⟨w.heap.size, 0, none⟩ = some (.slice A b c) ∧ (((W.setCell ⟨w.heap.size + 1, 0, none⟩ x).setCell ⟨w.heap.size + 1, 1, none⟩ y).setCell ⟨w.heap.size + 1, 2, none⟩ z).cell? ⟨w.heap.size, 1, none⟩ = some (.slice B b d) ∧ (((W.setCell ⟨w.heap.size + 1, 0, none⟩ x).setCell ⟨w.heap.size + 1, 1, none⟩ y).setCell ⟨w.heap.size + 1, 2, none⟩ z).cell? ⟨w.heap.size, 2, none⟩ = some (.int .i64 p.2.2) ∧ (((W.setCell ⟨w.heap.size + 1, 0, none⟩ x).setCell ⟨w.heap.size + 1, 1, none⟩ y).setCell ⟨w.heap.size + 1, 2, none⟩ z).cell? ⟨wr.heap.size, 1, none⟩ = some (.string (str s)) ∧ (((W.setCell ⟨w.heap.size + 1, 0, none⟩ x).setCell ⟨w.heap.size + 1, 1, none⟩ y).setCell ⟨w.heap.size + 1, 2, none⟩ z).cell? ⟨b7, off7, none⟩ = some (.int .i64 (q : Int)))) := Lib.hid (fun W x y z h => ⟨(cell_set_other _ _ _ _ (by omega)).trans ((cell_set_other _ _ _ _ (by omega)).trans ((cell_set_other _ _ _ _ (by omega)).trans h.1)), (cell_set_other _ _ _ _ (by omega)).trans ((cell_set_other _ _ _ _ (by omega)).trans ((cell_set_other _ _ _ _ (by omega)).trans h.2.1)), (cell_set_other _ _ _ _ (by omega)).trans ((cell_set_other _ _ _ _ (by omega)).trans ((cell_set_other _ _ _ _ (by omega)).trans h.2.2.1)), (cell_set_other _ _ _ _ (by omega)).trans ((cell_set_other _ _ _ _ (by omega)).trans ((cell_set_other _ _ _ _ (by omega)).trans h.2.2.2.1)), (cell_set_other _ _ _ _ (by omega)).trans ((cell_set_other _ _ _ _ (by omega)).trans ((cell_set_other _ _ _ _ (by omega)).trans h.2.2.2.2))⟩)
              have HM : Hid ((putP p q tx).2.2 = (putP p q tx).2.2) := Lib.hid rfl
              clear hq hqm hcell7 hx7 o7 oK7 k7 e0 e1 e2 e0' e1' e2' d0 d1 hc1 hc2 HSP x0 x1 x2 x3
              go_wp2_with fail
              go_region_held3 (fun W => W.cell? ⟨w.heap.size, 0, none⟩ = some (.slice A b c) ∧ W.cell? ⟨w.heap.size, 1, none⟩ = some (.slice B b d) ∧ W.cell? ⟨w.heap.size, 2, none⟩ = some (.int .i64 p.2.2) ∧ W.cell? ⟨wr.heap.size, 1, none⟩ = some (.string (str s)) ∧ W.cell? ⟨b7, off7, none⟩ = some (.int .i64 (q : Int)))
                (first | exact hS0 | exact HSX.out _ k8 | exact HSX.out _ (turn_trans k8 k9 (by omega)) | exact HSC.out _ _ _ _ (HSX.out _ (turn_trans k8 k9 (by omega))))
                (first
                  | (go_at_call 56; refine HPL.out.mono ?_; rintro e w8 ⟨rfl, k8'⟩; have k8 := undrew k8'; have s8 := k8.size)
                  | (go_at_call 55; refine (HWB.out _ k8).mono ?_; rintro e w9 ⟨va, vb, rfl, o9, k9⟩; obtain ⟨Ax, nx, cx, Ay, ny, cy, rfl, rfl⟩ := o9.isSlice; have s9 := k9.size; have hb9 := (HR9.out.keep k8 (by omega)).keep k9 (by omega); obtain ⟨y0, y1, y2, y3, y4, y5, y6⟩ := hb9))
              all_goals
                have kS := turn_set3 w9 (w.heap.size + 1) (.slice Ax nx cx) (.slice Ay ny cy) (.int .i64 (putP p q tx).2.2)
                have kk9 := TurnIn.of_below (k9.base (k8.base HB7.out (by omega) (by omega)) (by omega) (by omega))
                have kend := turn_old kk9 kS (by omega)
                have send := kend.size
                have ssk := kS.size
                have HFF := Lib.hid (show RetPOk 9 4 w (stpR l p) (stpOk l p) (.returned (.tuple #[.agg #[.slice Ax nx cx, .slice Ay ny cy, .int .i64 (putP p q tx).2.2], .bool true])) _ from ⟨_, _, by rw [hst1, hst2], by rw [hst2]; exact (o9.keep kS (by omega)).wider (by omega) (by omega), kend⟩)
                clear kS kk9 kend send ssk o9 hS0
                go_wp2_with fail
                refine bodyPost_ret (v := .tuple #[.agg #[.slice Ax nx cx, .slice Ay ny cy, .int .i64 (putP p q tx).2.2], .bool true]) (by simp [results, Try.results26, go_sem, y0, y1, y2, y3, y4, y5]) rfl ?_
                exact HFF.out
            · have hone := oneStep_not (d := ((no : Int), s)) (p := p) (by show (unk p (blkN (no : Int).toNat p.1.length)).length ≠ 1; rw [Int.toNat_natCast]; exact hlen)
              have HE2 : Hid (∀ (i : Nat) (d : Sh), i < k + 1 → l[i]? = some d → oneStep d p = none) := Lib.hid (fun i d hi hd => by
                rcases Nat.lt_or_ge i k with h | h
                · exact HE.out i d h hd
                · obtain rfl : i = k := by omega
                  rw [HKS.out] at hd
                  obtain rfl := Option.some.inj hd
                  exact hone)
              have HOK := Lib.hid oK7
              have htl : (tblK p (blkN no p.1.length)).length = b := by rw [tblK_length, HBB.out]
              generalize tblK p (blkN no p.1.length) = T7 at *
              have HTL := Lib.hid htl
              generalize (unk p (blkN no p.1.length)).length = lu at *
              have hbe : ((lu : Int) == 1) = false := by rw [beq_eq_false_iff_ne]; omega
              have hbn : ¬ (lu : Int) = 1 := by omega
              clear hone hx7 o7 oK7 k7 htl e0 e1 e2 e0' e1' e2' d0 d1 hc1 hc2 HSP x0 x1 x2 x3
              go_wp2_with fail
              go_roundw
              case rel => exact ⟨k + 1, T7, by omega, by go_num, HE2, HTL.out, HOK.out, HKR7.out⟩
              case measure => simp [intOf]; omega
          · have hke : k = n := by omega
            have hki : ¬ (k : Int) < (n : Int) := by omega
            have HF := Lib.hid (HNON.out (fun i d hi hd => HE.out i d (by omega) hd))
            obtain ⟨y0, y1, y2, y3, y4, y5, y6⟩ := HR7.out
            have kk := TurnIn.of_below hbw
            have kS := turn_set3 wr (w.heap.size + 1) (.slice none 0 0) (.slice none 0 0) (.int .i64 0)
            have kend := turn_old kk kS (by omega)
            have send := kend.size
            go_wp2_with fail
            refine bodyPost_ret (v := .tuple #[.agg #[.slice none 0 0, .slice none 0 0, .int .i64 0], .bool false]) (by simp [results, Try.results26, go_sem, y0, y1, y2, y3, y4, y5]) rfl ?_
            exact ⟨_, _, by rw [HF.out.1, HF.out.2], by rw [HF.out.2]; exact OwnP.nil _ _ _ _ send, kend⟩
      · have h2 : peeN s0.length p = false := by simpa using h2
        have H2 := Lib.hid h2
        have HF := Lib.hid (stpOk_bad (l := l) (p := p) (.inr (show peeOk l p = false by rw [peeOk_N, hln]; exact h2)))
        clear h1 h2 hlall hln hk0 hcl hc0 hlx
        rw [H1.out] at HG1
        rw [H2.out] at HG2
        go_enter Try.func26, Try.ntmps26
        go_wp2_with (simp only [HWA.out])
        obtain ⟨y0, y1, y2, y3, y4, y5, y6⟩ := HR.out
        have g0 := grew_cell e0 hlt0
        have g1 := grew_cell e1 hlt0
        have g2 := grew_cell e2 hlt0
        have g3 := grew_cell HD0.out (by omega)
        refine wp_region_grew (by kernel_rfl) (by kernel_rfl) ?_
        repeat (first | go_big_quiet_skip | quiet_step ((go_at_call 37; exact HG1.out _)) | quiet_step ((go_at_call 53; exact HG2.out _)))
        refine wpQuiet_nil ?_
        intro wc hcut
        obtain ⟨pg, rfl⟩ := hcut
        have k5 := TurnIn.of_below pg.old
        generalize pg.at_ = wc at *
        replace y0 := cell_turn k5 y0 (by omega)
        replace y1 := cell_turn k5 y1 (by omega)
        replace y2 := cell_turn k5 y2 (by omega)
        replace y3 := frozen_turn k5 y3 (by omega)
        replace y4 := frozen_turn k5 y4 (by omega)
        replace y5 := frozen_turn k5 y5 (by omega)
        have kk := turn_trans HKA.out k5 (by omega)
        have kS := turn_set3 wc (w.heap.size + 1) (.slice none 0 0) (.slice none 0 0) (.int .i64 0)
        have s5 := k5.size
        have kend := turn_old kk kS (by omega)
        have send := kend.size
        go_wp2_with fail
        refine bodyPost_ret (v := .tuple #[.agg #[.slice none 0 0, .slice none 0 0, .int .i64 0], .bool false]) (by simp [results, Try.results26, go_sem, y0, y1, y2, y3, y4, y5]) rfl ?_
        exact ⟨_, _, by rw [HF.out.1, HF.out.2], by rw [HF.out.2]; exact OwnP.nil _ _ _ _ send, kend⟩
  · have h1 : dropsOk l = false := by simpa using h1
    have H1 := Lib.hid h1
    have HF := Lib.hid (stpOk_bad (l := l) (p := p) (.inl h1))
    clear h1 hlx
    rw [H1.out] at HG1
    go_enter Try.func26, Try.ntmps26
    go_wp2_with (simp only [HWA.out])
    obtain ⟨y0, y1, y2, y3, y4, y5, y6⟩ := HR.out
    have g0 := grew_cell e0 hlt0
    have g1 := grew_cell e1 hlt0
    have g2 := grew_cell e2 hlt0
    refine wp_region_grew (by kernel_rfl) (by kernel_rfl) ?_
    repeat (first | go_big_quiet_skip | quiet_step ((go_at_call 37; exact HG1.out _)))
    refine wpQuiet_nil ?_
    intro wc hcut
    obtain ⟨pg, rfl⟩ := hcut
    have k5 := TurnIn.of_below pg.old
    generalize pg.at_ = wc at *
    replace y0 := cell_turn k5 y0 (by omega)
    replace y1 := cell_turn k5 y1 (by omega)
    replace y2 := cell_turn k5 y2 (by omega)
    replace y3 := frozen_turn k5 y3 (by omega)
    replace y4 := frozen_turn k5 y4 (by omega)
    replace y5 := frozen_turn k5 y5 (by omega)
    have kk := turn_trans HKA.out k5 (by omega)
    have kS := turn_set3 wc (w.heap.size + 1) (.slice none 0 0) (.slice none 0 0) (.int .i64 0)
    have s5 := k5.size
    have kend := turn_old kk kS (by omega)
    have send := kend.size
    go_wp2_with fail
    refine bodyPost_ret (v := .tuple #[.agg #[.slice none 0 0, .slice none 0 0, .int .i64 0], .bool false]) (by simp [results, Try.results26, go_sem, y0, y1, y2, y3, y4, y5]) rfl ?_
    exact ⟨_, _, by rw [HF.out.1, HF.out.2], by rw [HF.out.2]; exact OwnP.nil _ _ _ _ send, kend⟩

end Go.Proofs.Ytjklngheehhggaa
