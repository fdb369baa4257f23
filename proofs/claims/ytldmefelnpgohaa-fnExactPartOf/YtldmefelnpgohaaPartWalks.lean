/- PartOf, the program's. -/
import Derived.Test.YtldmefelnpgohaaPartMath
import Derived.Test.YtldmefelnpgohaaMatI
import Derived.Test.YtldmefelnpgohaaIntsWalks
import Derived.Test.YtldmefelnpgohaaAllocs
set_option linter.unusedSimpArgs false
set_option linter.unusedVariables false
namespace Go.Proofs.Ytldmefelnpgohaa
open Go.RowKit G294

set_option maxRecDepth 100000 in
set_option maxHeartbeats 1000000 in
theorem goodChoice_any (v : Value) (l : List Int) (size : Nat) (w : World) (hv : Seen w v (ints l)) (hsz : size ≤ 1000) :
    Calls Try.prog 60 #[v, .int .i64 size] w fun e w' => e = .returned (.bool (chosen l size)) ∧ w = w' := by
  obtain ⟨A, c, rfl, hlc, hcm, hx⟩ := hv
  rw [ints_length] at hlc hx
  simp only [ints_length]
  unfold maxLen at hcm
  generalize hnn : l.length = n at *
  have HN := Lib.hid hnn
  have HX := Lib.hid hx
  clear hnn hx
  go_enter Try.func60, Try.ntmps60
  go_wp2_with fail
  go_loop [5, 10] (fun q i => ∃ (k : Nat) (z : Int), k ≤ n ∧ i = .int .i64 k ∧ q = .int .i64 z ∧ Hid (z = if k = 0 then -1 else l.getD (k - 1) 0) ∧ Hid (∀ i, i < k → okAt l size i)) (fun _ i => n - (intOf i).toNat)
  case atStart => exact ⟨0, -1, Nat.zero_le _, rfl, rfl, rfl, fun i h => by omega⟩
  case round =>
    obtain ⟨k, z, hk, rfl, rfl, HZ, HK⟩ := hrel
    by_cases hlt : k < n
    · have hki : (k : Int) < (n : Int) := by omega
      have hkl : k < l.length := by rw [HN.out]; exact hlt
      obtain ⟨b, off, rfl, hbl, hcell⟩ := HX.out (by omega)
      have hcx := hcell k _ (ints_get l k hkl)
      obtain ⟨x, hxx⟩ : ∃ x, x = l[k] := ⟨_, rfl⟩
      rw [← hxx] at hcx
      have HXX : Hid (l.getD k 0 = x) := by show l.getD k 0 = x; rw [hxx]; simp [List.getD, hkl]
      clear hcell hxx
      by_cases h1 : x ≤ z
      · have hd : decide (x ≤ z) = true := by simpa using h1
        have HF : Hid (chosen l size = false) := by
          show chosen l size = false
          unfold chosen
          rw [someOk_no hkl (fun ho => by
            have hz := HZ.out
            have e := HXX.out
            obtain ⟨o1, o2, o3⟩ := ho
            by_cases hk0 : k = 0
            · rw [if_pos hk0] at hz; omega
            · rw [if_neg hk0] at hz
              have := o3 (by omega)
              omega)]
          rfl
        go_wp2_with fail
        go_ret
        exact ⟨by rw [HF.out]; rfl, rfl⟩
      · have hd : decide (x ≤ z) = false := by simpa using h1
        by_cases h2 : (size : Int) ≤ x
        · have hd2 : decide ((size : Int) ≤ x) = true := by simpa using h2
          have HF : Hid (chosen l size = false) := by
            show chosen l size = false
            unfold chosen
            rw [someOk_no hkl (fun ho => by
              have e := HXX.out
              obtain ⟨o1, o2, o3⟩ := ho
              omega)]
            rfl
          go_wp2_with fail
          go_ret
          exact ⟨by rw [HF.out]; rfl, rfl⟩
        · have hd2 : decide ((size : Int) ≤ x) = false := by simpa using h2
          have HZ2 : Hid (x = if k + 1 = 0 then -1 else l.getD (k + 1 - 1) 0) := by
            show x = _
            rw [if_neg (by omega), Nat.add_sub_cancel, HXX.out]
          have HK2 : Hid (∀ i, i < k + 1 → okAt l size i) := fun i hi => by
            by_cases e : i = k
            · subst e
              have hz := HZ.out
              have e := HXX.out
              refine ⟨?_, by omega, fun hp => ?_⟩
              · by_cases hk0 : i = 0
                · rw [if_pos hk0] at hz; omega
                · rw [if_neg hk0] at hz
                  have := (HK.out (i - 1) (by omega)).1
                  omega
              · rw [if_neg (by omega)] at hz; omega
            · exact HK.out i (by omega)
          go_wp2_with fail
          go_round
          case rel => exact ⟨k + 1, x, by omega, by go_num, rfl, HZ2, HK2⟩
          case measure => simp [intOf]; omega
    · obtain rfl : k = n := by omega
      have hki : ¬ (k : Int) < (k : Int) := by omega
      have HF : Hid (chosen l size = decide (0 < k)) := by
        show chosen l size = _
        unfold chosen
        rw [(someOk_iff l size).2 (fun i hi => HK.out i (by rw [← HN.out]; exact hi)), HN.out]; rfl
      go_wp2_with fail
      go_ret
      exact ⟨by rw [HF.out]; simp, rfl⟩

set_option maxRecDepth 100000 in
set_option maxHeartbeats 1000000 in
theorem pickedAt (r c Bg Br Bc : Nat) (F : Ents) (l m : List Int) (v u x : Value) (w : World) (hBg : Bg < w.heap.size) (hBr : Br < w.heap.size) (hBc : Bc < w.heap.size)
    (hv : w.cell? ⟨Bg, 0, none⟩ = some v) (hu : w.cell? ⟨Br, 0, none⟩ = some u) (hx : w.cell? ⟨Bc, 0, none⟩ = some x) (hs : SeenM w v (mkM r c F)) (hl : Seen w u (ints l)) (hm : Seen w x (ints m))
    (hlo : ∀ i, i < l.length → 0 ≤ l.getD i 0 ∧ l.getD i 0 < r) (hmo : ∀ i, i < m.length → 0 ≤ m.getD i 0 ∧ m.getD i 0 < c) :
    GivesAt Try.prog 85 #[.pointer (some ⟨Bg, 0, none⟩), .pointer (some ⟨Br, 0, none⟩), .pointer (some ⟨Bc, 0, none⟩)] l.length m.length (fun i j => F (l.getD i 0).toNat (m.getD j 0).toNat) w := by
  intro W i j hb hi hj
  have hv' := (hb.cell (p := ⟨Bg, 0, none⟩) hBg).trans hv
  have hu' := (hb.cell (p := ⟨Br, 0, none⟩) hBr).trans hu
  have hx' := (hb.cell (p := ⟨Bc, 0, none⟩) hBc).trans hx
  obtain ⟨a1, a2⟩ := hlo i hi
  obtain ⟨b1, b2⟩ := hmo j hj
  obtain ⟨p, hp⟩ := Int.eq_ofNat_of_zero_le a1
  obtain ⟨q, hq⟩ := Int.eq_ofNat_of_zero_le b1
  have HP := Lib.hid hp
  have HQ := Lib.hid hq
  have hp' : p < r := by omega
  have hq' : q < c := by omega
  obtain ⟨bb, off, cp, b', off', c', rfl, hl1, h1, h2, h3, hl2, h4⟩ := (hs.below hb).cellF p q hp' hq'
  obtain ⟨A1, c1, rfl, hlc1, hcm1, hx1⟩ := hl.below hb
  obtain ⟨A2, c2, rfl, hlc2, hcm2, hx2⟩ := hm.below hb
  rw [ints_length] at hlc1 hx1 hlc2 hx2
  simp only [ints_length] at hu' hx'
  obtain ⟨b3, o3, rfl, _, hc3⟩ := hx1 (by omega)
  obtain ⟨b4, o4, rfl, _, hc4⟩ := hx2 (by omega)
  have g3 := hc3 i _ (ints_get l i hi)
  have g4 := hc4 j _ (ints_get m j hj)
  have e3 : l[i] = (p : Int) := by have := HP.out; simp [List.getD, hi] at this; exact this
  have e4 : m[j] = (q : Int) := by have := HQ.out; simp [List.getD, hj] at this; exact this
  rw [e3] at g3
  rw [e4] at g4
  have HF : Hid ((F (l.getD i 0).toNat (m.getD j 0).toNat) = F p q) := by show F _ _ = F p q; rw [HP.out, HQ.out]; rfl
  unfold maxLen at hl1 hl2 hcm1 hcm2
  clear hv hu hx hs hl hm hlo hmo hp hq hx1 hx2 hc3 hc4 e3 e4 a1 a2 b1 b2
  generalize l.length = nl at *
  generalize m.length = nm at *
  have hi' : (i : Int) < (nl : Int) := by omega
  have hj' : (j : Int) < (nm : Int) := by omega
  have hi0 : (0 : Int) ≤ (i : Int) := Int.natCast_nonneg _
  have hj0 : (0 : Int) ≤ (j : Int) := Int.natCast_nonneg _
  have hpi : (p : Int) < (r : Int) := by omega
  have hqi : (q : Int) < (c : Int) := by omega
  have hp0 : (0 : Int) ≤ (p : Int) := Int.natCast_nonneg _
  have hq0 : (0 : Int) ≤ (q : Int) := Int.natCast_nonneg _
  go_enter Try.func85, Try.ntmps85
  go_wp2_with fail
  go_quiet (fail)
  go_wp2_with fail
  go_ret
  exact ⟨by rw [HF.out]; rfl, _, rfl⟩

set_option maxRecDepth 100000 in
set_option maxHeartbeats 1000000 in
theorem picked_own (r c : Nat) (F : Ents) (l m : List Int) (v u x : Value) (w : World) (hs : SeenM w v (mkM r c F)) (hl : Seen w u (ints l)) (hm : Seen w x (ints m))
    (hlo : ∀ i, i < l.length → 0 ≤ l.getD i 0 ∧ l.getD i 0 < r) (hmo : ∀ i, i < m.length → 0 ≤ m.getD i 0 ∧ m.getD i 0 < c) (hn : l.length ≤ 1000) (hn2 : m.length ≤ 1000) :
    Calls Try.prog 61 #[v, u, x] w (RetM 5 44 w (mkM l.length m.length fun i j => F (l.getD i 0).toNat (m.getD j 0).toNat)) := by
  have k3 : TurnIn 0 0 w (((w.alloc (.cells #[v] 70)).alloc (.cells #[u] 38)).alloc (.cells #[x] 38)) := turn_trans (turn_trans (turn_alloc _ _) (turn_alloc _ _) (by omega)) (turn_alloc _ _) (by omega)
  have z3 : (((w.alloc (.cells #[v] 70)).alloc (.cells #[u] 38)).alloc (.cells #[x] 38)).heap.size = w.heap.size + 3 := by simp
  have q1 : (((w.alloc (.cells #[v] 70)).alloc (.cells #[u] 38)).alloc (.cells #[x] 38)).cell? ⟨w.heap.size, 0, none⟩ = some v := cell_turn (turn_trans (turn_alloc _ _) (turn_alloc _ _) (by omega)) (show (w.alloc (.cells #[v] 70)).cell? ⟨w.heap.size, 0, none⟩ = some v by simp) (by simp)
  have q2 : (((w.alloc (.cells #[v] 70)).alloc (.cells #[u] 38)).alloc (.cells #[x] 38)).cell? ⟨w.heap.size + 1, 0, none⟩ = some u := alloc_mid_cell _ _ _ _ _
  have q3 : (((w.alloc (.cells #[v] 70)).alloc (.cells #[u] 38)).alloc (.cells #[x] 38)).cell? ⟨w.heap.size + 2, 0, none⟩ = some x := alloc_last_cell _ _ _ _ _
  have HG := Lib.hid (pickedAt r c w.heap.size (w.heap.size + 1) (w.heap.size + 1 + 1) F l m v u x _ (by omega) (by omega) (by omega) q1 q2 q3 (hs.touch k3) (hl.touch k3) (hm.touch k3) hlo hmo)
  have HK := Lib.hid k3
  have eg := enters_of Try.func85 (by kernel_rfl) rfl
  obtain ⟨A, cp, hvv, _, _⟩ := hs.len
  obtain ⟨A1, c1, hu⟩ := hl.len
  obtain ⟨A2, c2, hx⟩ := hm.len
  rw [ints_length] at hu hx
  rw [mkM_length] at hvv
  subst hu hx hvv
  clear hs hl hm hlo hmo k3 z3
  go_enter Try.func61, Try.ntmps61
  go_wp2_with fail
  refine (newGridB l.length m.length _ _ _ _ eg HG.out hn hn2).mono ?_
  rintro e w' ⟨v', vs', rfl, hM, ht⟩
  go_wp2_with fail
  go_ret
  exact RetM.base ⟨_, _, rfl, hM, ht⟩ HK.out.to_below

set_option maxRecDepth 100000 in
set_option maxHeartbeats 2000000 in
theorem partOf_own (v u x : Value) (L : Mat) (l m : List Int) (w : World) (hs : SeenM w v L) (hl : Seen w u (ints l)) (hm : Seen w x (ints m)) :
    Calls Try.prog 28 #[.agg #[v], u, x] w (RetMatOk 5 44 w (ptR L l m) (ptOk L l m)) := by
  have kB : TurnIn 0 0 w ((w.alloc (.cells #[v] 27)).alloc (.cells #[.slice none 0 0] 27)) := turn_trans (turn_alloc _ _) (turn_alloc _ _) (by omega)
  have zB : ((w.alloc (.cells #[v] 27)).alloc (.cells #[.slice none 0 0] 27)).heap.size = w.heap.size + 2 := by simp
  have q0 : ((w.alloc (.cells #[v] 27)).alloc (.cells #[.slice none 0 0] 27)).cell? ⟨w.heap.size, 0, none⟩ = some v := by simp
  have q1 : ((w.alloc (.cells #[v] 27)).alloc (.cells #[.slice none 0 0] 27)).cell? ⟨w.heap.size + 1, 0, none⟩ = some (.slice none 0 0) := by simp
  have q1f : ((w.alloc (.cells #[v] 27)).alloc (.cells #[.slice none 0 0] 27)).frozen? ⟨w.heap.size + 1, 0, none⟩ = false := by simp
  have HS := Lib.hid (hs.touch kB)
  have HL := Lib.hid (hl.touch kB)
  have HM := Lib.hid (hm.touch kB)
  obtain ⟨A, cp, rfl, hlc, hcm⟩ := hs.len
  obtain ⟨A1, c1, hu⟩ := hl.len
  obtain ⟨A2, c2, hx⟩ := hm.len
  rw [ints_length] at hu hx
  subst hu hx
  have HOdef : Hid (ptOk L l m = (goodM L && chosen l L.length && chosen m (wid L))) := rfl
  have KB := Lib.hid kB
  have ZB := Lib.hid zB
  unfold maxLen at hcm
  clear hs hl hm kB zB
  go_enter Try.func28, Try.ntmps28
  go_wp2_with fail
  generalize ((w.alloc (.cells #[.slice A L.length cp] 27)).alloc (.cells #[.slice none 0 0] 27)) = w2 at *
  have hz2 := ZB.out
  refine (igood_any _ L _ HS.out).mono ?_
  rintro e w3 ⟨rfl, k3⟩
  have p0 := cell_turn k3 q0 (by omega)
  have p1 := cell_turn k3 q1 (by omega)
  have p1f := frozen_turn k3 q1f (by omega)
  have s3 := k3.size
  have HB3 := Lib.hid (k3.base KB.out.to_below (by omega) (by omega))
  have HS3 := Lib.hid (HS.out.touch k3)
  have HL3 := Lib.hid (HL.out.touch k3)
  have HM3 := Lib.hid (HM.out.touch k3)
  have hz3 : w.heap.size + 2 ≤ w3.heap.size := by omega
  clear k3 q0 q1 q1f hz2
  have hfail : ptOk L l m = false → ptR L l m = [] := fun h => if_neg (by rw [h]; simp)
  have HFAIL := Lib.hid hfail
  clear hfail
  by_cases hg : goodM L = true
  · have HG := Lib.hid hg
    obtain ⟨g1, g2, g3, g4, _⟩ := (goodM_iff L).1 hg
    have HLE := Lib.hid (good_eq hg)
    obtain ⟨bb, off, c9, A0, c0, hvv, _, hbb, hrow0, hl2, _⟩ := (show SeenM w3 (.slice A L.length cp) (mkM L.length (wid L) (ent L)) from HLE.out ▸ HS3.out).rowF 0 (by omega)
    simp only [Value.slice.injEq] at hvv
    obtain ⟨rfl, _, rfl⟩ := hvv
    rw [Nat.add_zero] at hrow0
    rw [hg]
    have hpos : 0 < L.length := g1
    unfold maxLen at hl2
    clear hg
    go_wp2_with fail
    refine (goodChoice_any _ l L.length _ HL3.out (by omega)).mono ?_
    rintro e w' ⟨rfl, rfl⟩
    by_cases hc1 : chosen l L.length = true
    · have HC1 := Lib.hid hc1
      rw [hc1]
      clear hc1
      go_wp2_with fail
      refine (goodChoice_any _ m (wid L) _ HM3.out (by omega)).mono ?_
      rintro e w' ⟨rfl, rfl⟩
      by_cases hc2 : chosen m (wid L) = true
      · have HC2 := Lib.hid hc2
        rw [hc2]
        have HO : Hid (ptOk L l m = true) := by show ptOk L l m = true; rw [HOdef.out, HG.out, HC1.out, hc2]; rfl
        have HR : Hid (ptR L l m = mkM l.length m.length (ptF L l m)) := if_pos HO.out
        have ok1 : someOk l L.length = true := by have := HC1.out; unfold chosen at this; simp at this; exact this.1
        have ok2 : someOk m (wid L) = true := by have := HC2.out; unfold chosen at this; simp at this; exact this.1
        have HO1 := Lib.hid ok1
        have HO2 := Lib.hid ok2
        have b1 := some_len ok1
        have b2 := some_len ok2
        clear hc2 ok1 ok2
        go_wp2_with fail
        refine (picked_own L.length (wid L) (ent L) l m _ _ _ _ (HLE.out ▸ HS3.out) HL3.out HM3.out (fun i hi => ⟨((someOk_iff _ _).1 HO1.out i hi).1, ((someOk_iff _ _).1 HO1.out i hi).2.1⟩) (fun i hi => ⟨((someOk_iff _ _).1 HO2.out i hi).1, ((someOk_iff _ _).1 HO2.out i hi).2.1⟩) (by omega) (by omega)).mono ?_
        rintro e w4 ⟨v', vs', rfl, hM, ht⟩
        obtain ⟨A', n', c', rfl⟩ := hM.isSlice
        have hq := cell_turn ht p1 (by omega)
        have hqf := frozen_turn ht p1f (by omega)
        have HF := Lib.hid (ret_store HB3.out hM ht (w.heap.size + 1) 0 (by omega) (by omega) (.slice A' n' c'))
        clear hM ht
        go_wp2_with fail
        refine bodyPost_ret (v := .tuple #[.agg #[.slice A' n' c'], .bool true]) (by simp [results, Try.results28, go_sem, hq]) rfl ?_
        exact ⟨.slice A' n' c', vs', by rw [HO.out], by rw [HR.out]; exact HF.out.1, HF.out.2⟩
      · have HC2 : Hid (chosen m (wid L) = false) := by show chosen m (wid L) = false; simpa using hc2
        rw [HC2.out]
        have HO : Hid (ptOk L l m = false) := by show ptOk L l m = false; rw [HOdef.out, HC2.out]; simp
        clear hc2
        go_wp2_with fail
        refine bodyPost_ret (v := .tuple #[.agg #[.slice none 0 0], .bool false]) (by simp [results, Try.results28, go_sem, p1]) rfl ?_
        exact ⟨_, [], by rw [HO.out], by rw [HFAIL.out HO.out]; exact OwnM.nil _ _ _ _, TurnIn.of_below (HB3.out.setCell (Nat.le_succ _) _)⟩
    · have HC1 : Hid (chosen l L.length = false) := by show chosen l L.length = false; simpa using hc1
      rw [HC1.out]
      have HO : Hid (ptOk L l m = false) := by show ptOk L l m = false; rw [HOdef.out, HC1.out]; simp
      clear hc1
      go_wp2_with fail
      refine bodyPost_ret (v := .tuple #[.agg #[.slice none 0 0], .bool false]) (by simp [results, Try.results28, go_sem, p1]) rfl ?_
      exact ⟨_, [], by rw [HO.out], by rw [HFAIL.out HO.out]; exact OwnM.nil _ _ _ _, TurnIn.of_below (HB3.out.setCell (Nat.le_succ _) _)⟩
  · have HG : Hid (goodM L = false) := by show goodM L = false; simpa using hg
    rw [HG.out]
    have HO : Hid (ptOk L l m = false) := by show ptOk L l m = false; rw [HOdef.out, HG.out]; rfl
    clear hg
    go_wp2_with fail
    refine bodyPost_ret (v := .tuple #[.agg #[.slice none 0 0], .bool false]) (by simp [results, Try.results28, go_sem, p1]) rfl ?_
    exact ⟨_, [], by rw [HO.out], by rw [HFAIL.out HO.out]; exact OwnM.nil _ _ _ _, TurnIn.of_below (HB3.out.setCell (Nat.le_succ _) _)⟩

end Go.Proofs.Ytldmefelnpgohaa
