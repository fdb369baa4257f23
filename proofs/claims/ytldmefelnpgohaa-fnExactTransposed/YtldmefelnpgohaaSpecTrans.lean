/- The model's Transposed. -/
import Derived.Test.YtldmefelnpgohaaFill2
import Derived.Test.YtldmefelnpgohaaGood
set_option linter.unusedSimpArgs false
set_option linter.unusedVariables false
namespace Go.Proofs.Ytldmefelnpgohaa
open Go.RowKit G294

set_option maxRecDepth 100000 in
set_option maxHeartbeats 4000000 in
theorem l2Transposed_own (r c : Nat) (F : Ents) (v : Value) (w : World) (hs : SeenM w v (mkM r c F)) (h1 : 1 ≤ r) (h2 : 1 ≤ c) (hr : r ≤ 16) (hc : c ≤ 16) : Calls Try.prog 56 #[.agg #[v]] w (RetMat 5 44 w (mkM c r fun i j => F j i)) := by
  have kB : TurnIn 0 0 w (w.alloc (.cells #[v] 27)) := turn_alloc _ _
  have kR : TurnIn 0 0 w ((w.alloc (.cells #[v] 27)).alloc (.cells #[.slice none 0 0] 27)) := turn_trans kB (turn_alloc _ _) (by omega)
  have kV : TurnIn 0 0 w (((w.alloc (.cells #[v] 27)).alloc (.cells #[.slice none 0 0] 27)).alloc (.cells #[.slice none 0 0] 27)) := turn_trans kR (turn_alloc _ _) (by omega)
  have zR : ((w.alloc (.cells #[v] 27)).alloc (.cells #[.slice none 0 0] 27)).heap.size = w.heap.size + 2 := by simp
  have zV : (((w.alloc (.cells #[v] 27)).alloc (.cells #[.slice none 0 0] 27)).alloc (.cells #[.slice none 0 0] 27)).heap.size = w.heap.size + 3 := by simp
  obtain ⟨bb, off, cp, A0, c0, rfl, hl1, hbb, hrow0, hl2, _⟩ := hs.rowF 0 (by omega)
  rw [Nat.add_zero] at hrow0
  have r1 : ((w.alloc (.cells #[.slice (some ⟨bb, off, none⟩) r cp] 27)).alloc (.cells #[.slice none 0 0] 27)).cell? ⟨w.heap.size, 0, none⟩ = some (.slice (some ⟨bb, off, none⟩) r cp) := by simp
  have r2 := cell_turn kR hrow0 hbb
  have r3 : ((w.alloc (.cells #[.slice (some ⟨bb, off, none⟩) r cp] 27)).alloc (.cells #[.slice none 0 0] 27)).cell? ⟨w.heap.size + 1, 0, none⟩ = some (.slice none 0 0) := by simp
  have r3f : ((w.alloc (.cells #[.slice (some ⟨bb, off, none⟩) r cp] 27)).alloc (.cells #[.slice none 0 0] 27)).frozen? ⟨w.heap.size + 1, 0, none⟩ = false := by simp
  have v1 := cell_turn (turn_alloc _ (.cells #[.slice none 0 0] 27)) r1 (by omega)
  have v2 := cell_turn kV hrow0 hbb
  have v3 := cell_turn (turn_alloc _ (.cells #[.slice none 0 0] 27)) r3 (by omega)
  have v3f := frozen_turn (turn_alloc _ (.cells #[.slice none 0 0] 27)) r3f (by omega)
  have HS := Lib.hid hs
  have hpos : 0 < r := h1
  unfold maxLen at hl1 hl2
  clear hs kB
  go_enter Try.func56, Try.ntmps56
  go_wp2_with fail
  generalize ((w.alloc (.cells #[.slice (some ⟨bb, off, none⟩) r cp] 27)).alloc (.cells #[.slice none 0 0] 27)) = wR at *
  have v4 : (wR.alloc (.cells #[.slice none 0 0] 27)).cell? ⟨wR.heap.size, 0, none⟩ = some (.slice none 0 0) := by simp
  have v4f : (wR.alloc (.cells #[.slice none 0 0] 27)).frozen? ⟨wR.heap.size, 0, none⟩ = false := by simp
  have KR := Lib.hid kR
  have KV := Lib.hid kV
  have ZR := Lib.hid zR
  have ZV := Lib.hid zV
  clear zR zV kR kV
  go_region_held3 (fun w' => w'.cell? ⟨w.heap.size, 0, none⟩ = some (.slice (some ⟨bb, off, none⟩) r cp) ∧ w'.cell? ⟨bb, off, none⟩ = some (.slice A0 c c0))
    (first | exact ⟨r1, r2⟩ | exact ⟨v1, v2⟩ | exact ⟨q1, q2⟩ | exact ⟨q3, q4⟩ | exact ⟨q5, q6⟩)
    (first
      | (go_at_call 69; refine (l2Blank_own c r (World.drew wR) (by omega) (by omega)).mono ?_; rintro e w2 ⟨y, vs, rfl, hM, ht'⟩; obtain ⟨g, cp2, rfl, hg1, hg2, hg3, hg4⟩ := hM.sliceF h2; have ht : TurnIn 0 0 wR w2 := ⟨ht'.os, ht'.tape, ht'.output, ht'.size, ht'.block⟩; have hsz2 := ht.size; have zr := ZR.out; have q1 := cell_turn ht r1 (by omega); have q2 := cell_turn ht r2 (by omega); have q3 := cell_turn (turn_alloc w2 (.cells #[.slice none 0 0] 27)) q1 (by omega); have q4 := cell_turn (turn_alloc w2 (.cells #[.slice none 0 0] 27)) q2 (by omega); have q5 := cell_turn (turn_alloc w2 (.cells #[.slice (some ⟨g, 0, none⟩) c cp2] 27)) q1 (by omega); have q6 := cell_turn (turn_alloc w2 (.cells #[.slice (some ⟨g, 0, none⟩) c cp2] 27)) q2 (by omega); have HFF := Lib.hid (Fill2.late (E := 5) (EE := 44) (w := w) (R := w.heap.size + 1) (t := 27) rfl hM (show w.heap.size ≤ (World.drew wR).heap.size from (by show w.heap.size ≤ wR.heap.size; omega)) ⟨(by show _ < wR.heap.size; omega), (by omega)⟩ (cell_turn ht r3 (by omega)) (frozen_turn ht r3f (by omega)) (ht.base KR.out.to_below (by omega) (by omega)) (by omega)); clear zr)
      | (go_at_call 69; refine (l2Blank_own c r (World.drew (wR.alloc (.cells #[.slice none 0 0] 27))) (by omega) (by omega)).mono ?_; rintro e w2 ⟨y, vs, rfl, hM, ht'⟩; obtain ⟨g, cp2, rfl, hg1, hg2, hg3, hg4⟩ := hM.sliceF h2; have ht : TurnIn 0 0 (wR.alloc (.cells #[.slice none 0 0] 27)) w2 := ⟨ht'.os, ht'.tape, ht'.output, ht'.size, ht'.block⟩; have hsz2 := ht.size; have zr := ZR.out; have zv := ZV.out; have q1 := cell_turn ht v1 (by omega); have q2 := cell_turn ht v2 (by omega); have q7 := cell_turn ht v4 (by omega); have q7f := frozen_turn ht v4f (by omega); have q5 := (cell_set_other w2 (B := wR.heap.size) 0 0 (.slice (some ⟨g, 0, none⟩) c cp2) (by omega)).trans q1; have q6 := (cell_set_other w2 (B := wR.heap.size) 0 off (.slice (some ⟨g, 0, none⟩) c cp2) (by omega)).trans q2; have HFF := Lib.hid (Fill2.early (E := 5) (EE := 44) (w := w) (R := w.heap.size + 1) (B := wR.heap.size) hM (show w.heap.size ≤ (World.drew (wR.alloc (.cells #[.slice none 0 0] 27))).heap.size from (by show w.heap.size ≤ (wR.alloc (.cells #[.slice none 0 0] 27)).heap.size; omega)) ⟨(by show _ < (wR.alloc (.cells #[.slice none 0 0] 27)).heap.size; omega), (by omega)⟩ ⟨(by show _ < (wR.alloc (.cells #[.slice none 0 0] 27)).heap.size; omega), (by omega)⟩ (by omega) q7 (cell_turn ht v3 (by omega)) (frozen_turn ht v3f (by omega)) (ht.base KV.out.to_below (by omega) (by omega)) (by omega)); clear zr zv))
  · unfold maxLen at hg4
    have HF0 := Lib.hid (HFF.out.congr (L' := mkM c r fun j i => if i < 0 then F i j else 0) (mkM_congr fun i j _ _ => by simp))
    clear HFF hM ht ht' q1 q2 r1 r2 r3 r3f v1 v2 v3 v3f v4 v4f q3 q4
    go_wp2_with fail
    go_loopw [20] (fun i wr => ∃ k : Nat, k ≤ r ∧ i = .int .i64 k ∧ Hid (Fill2 5 44 w wr (w.heap.size + 1) w2.heap.size (.slice (some ⟨g, 0, none⟩) c cp2) (mkM c r fun j i => if i < k then F i j else 0) vs))
      (fun i _ => r - (intOf i).toNat)
    case atStart => exact ⟨0, Nat.zero_le _, rfl, HF0⟩
    case round =>
      obtain ⟨k, hk, rfl, HF⟩ := hrel
      clear q5 q6
      by_cases hlt : k < r
      · have hki : (k : Int) < (r : Int) := by omega
        obtain ⟨bb2, off2, cp3, A2, c2, hvv, _, hbl2, hrow, hl3, hsr⟩ := HS.out.rowF k hlt
        simp only [Value.slice.injEq, Option.some.injEq, Addr.mk.injEq, and_true] at hvv
        obtain ⟨⟨rfl, rfl⟩, _, rfl⟩ := hvv
        have hrow' := (HF.out.old.cell (p := ⟨bb, off + k, none⟩) hbl2).trans hrow
        have HROW := Lib.hid hrow
        clear hrow
        have HSR := Lib.hid hsr
        have HF1 := Lib.hid (HF.out.congr (L' := mkM c r fun j i => if i < k ∨ (i = k ∧ j < 0) then F i j else 0) (mkM_congr fun i j _ _ => by simp))
        unfold maxLen at hl3
        clear hsr
        go_wp2_with fail
        go_loopw [27] (fun i wq => ∃ m : Nat, m ≤ c ∧ i = .int .i64 m ∧ Hid (Fill2 5 44 w wq (w.heap.size + 1) w2.heap.size (.slice (some ⟨g, 0, none⟩) c cp2) (mkM c r fun j i => if i < k ∨ (i = k ∧ j < m) then F i j else 0) vs))
          (fun i _ => c - (intOf i).toNat)
        case atStart => exact ⟨0, Nat.zero_le _, rfl, HF1⟩
        case round =>
          obtain ⟨m, hm, rfl, HF⟩ := hrel
          clear hrow'
          by_cases hlm : m < c
          · have hmi : (m : Int) < (c : Int) := by omega
            have hvar := HF.out.var
            obtain ⟨A3, c3, e3, _, _, hcells⟩ := HSR.out
            simp only [bys_length, mkRow_length] at e3 hcells
            simp only [Value.slice.injEq] at e3
            obtain ⟨rfl, _, rfl⟩ := e3
            obtain ⟨b5, off5, rfl, hbl5, hc5⟩ := hcells (by omega)
            have hcx := hc5 m _ (bys_get _ m (by rw [mkRow_length]; exact hlm))
            rw [mkRow_get] at hcx
            have hcx' := (HF.out.old.cell (p := ⟨b5, off5 + m, none⟩) hbl5).trans hcx
            obtain ⟨b6, cp6, hu6, z1, z2, z3, z4, z5, z6, z7, hfz, hcell⟩ := HF.out.rowF m hlm (by omega)
            have hco := HF.out.cellAt hu6
            have hcy := hcell k hlt
            have hfr := hfz k
            unfold maxLen at z7
            have HF2 := Lib.hid ((HF.out.storeF (j := k) (x := F k m) hlm hu6).congr (L' := mkM c r fun j i => if i < k ∨ (i = k ∧ j < m + 1) then F i j else 0) (mkM_congr fun j i _ _ => by
              by_cases a1 : i = k
              · subst a1
                by_cases a2 : j = m
                · subst a2; simp
                · by_cases a3 : j < m
                  · simp [a2, a3]; omega
                  · simp [a2, a3]; omega
              · simp [a1]))
            clear hcell hfz hu6 z5 hcx hc5 hcells
            go_wp2_with fail
            go_roundw
            case rel => exact ⟨m + 1, by omega, by go_num, HF2⟩
            case measure => simp [intOf]; omega
          · obtain rfl : m = c := by omega
            have hmi : ¬ (m : Int) < (m : Int) := by omega
            go_wp2_with fail
            go_roundw
            case rel => exact ⟨k + 1, by omega, by go_num, Lib.hid (HF.out.congr (mkM_congr fun j i hj _ => by
              by_cases a1 : i < k
              · simp [a1]; omega
              · by_cases a2 : i = k
                · subst a2; simp [hj]
                · simp [a1, a2]; omega))⟩
            case measure => simp [intOf]; omega
      · obtain rfl : k = r := by omega
        have hki : ¬ (k : Int) < (k : Int) := by omega
        have hvar := HF.out.var
        have hc0 := HF.out.res
        have hf0 := HF.out.resf
        go_wp2_with fail
        refine bodyPost_ret (v := .agg #[.slice (some ⟨g, 0, none⟩) c cp2]) (by simp [results, Try.results56, go_sem, hc0]) rfl ?_
        exact (HF.out.congr (L' := mkM c k fun i j => F j i) (mkM_congr fun i j _ hj => by simp [hj])).finish
  · unfold maxLen at hg4
    have HF0 := Lib.hid (HFF.out.congr (L' := mkM c r fun j i => if i < 0 then F i j else 0) (mkM_congr fun i j _ _ => by simp))
    clear HFF hM ht ht' q1 q2 r1 r2 r3 r3f v1 v2 v3 v3f v4 v4f q7 q7f
    go_wp2_with fail
    go_loopw [20] (fun i wr => ∃ k : Nat, k ≤ r ∧ i = .int .i64 k ∧ Hid (Fill2 5 44 w wr (w.heap.size + 1) wR.heap.size (.slice (some ⟨g, 0, none⟩) c cp2) (mkM c r fun j i => if i < k then F i j else 0) vs))
      (fun i _ => r - (intOf i).toNat)
    case atStart => exact ⟨0, Nat.zero_le _, rfl, HF0⟩
    case round =>
      obtain ⟨k, hk, rfl, HF⟩ := hrel
      clear q5 q6
      by_cases hlt : k < r
      · have hki : (k : Int) < (r : Int) := by omega
        obtain ⟨bb2, off2, cp3, A2, c2, hvv, _, hbl2, hrow, hl3, hsr⟩ := HS.out.rowF k hlt
        simp only [Value.slice.injEq, Option.some.injEq, Addr.mk.injEq, and_true] at hvv
        obtain ⟨⟨rfl, rfl⟩, _, rfl⟩ := hvv
        have hrow' := (HF.out.old.cell (p := ⟨bb, off + k, none⟩) hbl2).trans hrow
        have HROW := Lib.hid hrow
        clear hrow
        have HSR := Lib.hid hsr
        have HF1 := Lib.hid (HF.out.congr (L' := mkM c r fun j i => if i < k ∨ (i = k ∧ j < 0) then F i j else 0) (mkM_congr fun i j _ _ => by simp))
        unfold maxLen at hl3
        clear hsr
        go_wp2_with fail
        go_loopw [27] (fun i wq => ∃ m : Nat, m ≤ c ∧ i = .int .i64 m ∧ Hid (Fill2 5 44 w wq (w.heap.size + 1) wR.heap.size (.slice (some ⟨g, 0, none⟩) c cp2) (mkM c r fun j i => if i < k ∨ (i = k ∧ j < m) then F i j else 0) vs))
          (fun i _ => c - (intOf i).toNat)
        case atStart => exact ⟨0, Nat.zero_le _, rfl, HF1⟩
        case round =>
          obtain ⟨m, hm, rfl, HF⟩ := hrel
          clear hrow'
          by_cases hlm : m < c
          · have hmi : (m : Int) < (c : Int) := by omega
            have hvar := HF.out.var
            obtain ⟨A3, c3, e3, _, _, hcells⟩ := HSR.out
            simp only [bys_length, mkRow_length] at e3 hcells
            simp only [Value.slice.injEq] at e3
            obtain ⟨rfl, _, rfl⟩ := e3
            obtain ⟨b5, off5, rfl, hbl5, hc5⟩ := hcells (by omega)
            have hcx := hc5 m _ (bys_get _ m (by rw [mkRow_length]; exact hlm))
            rw [mkRow_get] at hcx
            have hcx' := (HF.out.old.cell (p := ⟨b5, off5 + m, none⟩) hbl5).trans hcx
            obtain ⟨b6, cp6, hu6, z1, z2, z3, z4, z5, z6, z7, hfz, hcell⟩ := HF.out.rowF m hlm (by omega)
            have hco := HF.out.cellAt hu6
            have hcy := hcell k hlt
            have hfr := hfz k
            unfold maxLen at z7
            have HF2 := Lib.hid ((HF.out.storeF (j := k) (x := F k m) hlm hu6).congr (L' := mkM c r fun j i => if i < k ∨ (i = k ∧ j < m + 1) then F i j else 0) (mkM_congr fun j i _ _ => by
              by_cases a1 : i = k
              · subst a1
                by_cases a2 : j = m
                · subst a2; simp
                · by_cases a3 : j < m
                  · simp [a2, a3]; omega
                  · simp [a2, a3]; omega
              · simp [a1]))
            clear hcell hfz hu6 z5 hcx hc5 hcells
            go_wp2_with fail
            go_roundw
            case rel => exact ⟨m + 1, by omega, by go_num, HF2⟩
            case measure => simp [intOf]; omega
          · obtain rfl : m = c := by omega
            have hmi : ¬ (m : Int) < (m : Int) := by omega
            go_wp2_with fail
            go_roundw
            case rel => exact ⟨k + 1, by omega, by go_num, Lib.hid (HF.out.congr (mkM_congr fun j i hj _ => by
              by_cases a1 : i < k
              · simp [a1]; omega
              · by_cases a2 : i = k
                · subst a2; simp [hj]
                · simp [a1, a2]; omega))⟩
            case measure => simp [intOf]; omega
      · obtain rfl : k = r := by omega
        have hki : ¬ (k : Int) < (k : Int) := by omega
        have hvar := HF.out.var
        have hc0 := HF.out.res
        have hf0 := HF.out.resf
        go_wp2_with fail
        refine bodyPost_ret (v := .agg #[.slice (some ⟨g, 0, none⟩) c cp2]) (by simp [results, Try.results56, go_sem, hc0]) rfl ?_
        exact (HF.out.congr (L' := mkM c k fun i j => F j i) (mkM_congr fun i j _ hj => by simp [hj])).finish

set_option maxRecDepth 100000 in
set_option maxHeartbeats 1000000 in
theorem sTransposed_own (v : Value) (L : Mat) (w : World) (hs : SeenM w v L) : Calls Try.prog 24 #[.agg #[v]] w (RetMatOk 5 44 w (transR L) (goodM L)) := by
  have hb0 : Below w.heap.size w (w.alloc (.cells #[v] 27)) := (Below.refl _ _).alloc (Nat.le_refl _) _
  have hb2 : Below w.heap.size w ((w.alloc (.cells #[v] 27)).alloc (.cells #[.slice none 0 0] 27)) := hb0.alloc (by simp) _
  have HS := Lib.hid (hs.below hb2)
  obtain ⟨A, c, rfl, hlc, hcm⟩ := hs.len
  have HB := Lib.hid hb2
  have hsz : ((w.alloc (.cells #[.slice A L.length c] 27)).alloc (.cells #[.slice none 0 0] 27)).heap.size = w.heap.size + 2 := by simp
  have HSZ := Lib.hid hsz
  clear hb0 hb2 hs hsz
  by_cases hg : goodM L = true
  · have HG := Lib.hid hg
    have HL := Lib.hid (good_eq hg)
    have HR : Hid (transR L = mkM (wid L) L.length fun i j => ent L j i) := if_pos hg
    have hgg := (goodM_iff L).1 hg
    obtain ⟨g1, g2, g3, g4, _⟩ := hgg
    clear hg
    go_enter Try.func24, Try.ntmps24
    go_wp2_with fail
    refine (sgood_any _ L _ HS.out).mono ?_
    rintro e w3 ⟨rfl, k3⟩
    rw [HG.out]
    have q0 := cell_turn k3 (B := w.heap.size) (o := 0) (x := .slice A L.length c) (by simp) (by rw [HSZ.out]; omega)
    have K3 := Lib.hid k3
    have HB3 := Lib.hid (k3.base HB.out (by rw [HSZ.out]; omega) (by omega))
    have HS3 := Lib.hid (show SeenM w3 (.slice A L.length c) (mkM L.length (wid L) (ent L)) from HL.out ▸ HS.out.touch k3)
    clear k3
    go_wp2_with fail
    refine (l2Transposed_own L.length (wid L) (ent L) _ _ HS3.out g1 g3 g2 g4).mono ?_
    rintro e w4 ⟨v', vs', rfl, hM, ht⟩
    obtain ⟨A', n', c', rfl⟩ := hM.isSlice
    have hs3 := K3.out.size
    rw [HSZ.out] at hs3
    have hq := cell_turn ht (cell_turn K3.out (B := w.heap.size + 1) (o := 0) (x := .slice none 0 0) (by simp) (by rw [HSZ.out]; omega)) (by omega)
    have hqf := frozen_turn ht (frozen_turn K3.out (B := w.heap.size + 1) (o := 0) (x := false) (by simp) (by rw [HSZ.out]; omega)) (by omega)
    have HF := Lib.hid (ret_store HB3.out hM ht (w.heap.size + 1) 0 (by omega) (by omega) (.slice A' n' c'))
    clear hM ht
    go_wp2_with fail
    refine bodyPost_ret (v := .tuple #[.agg #[.slice A' n' c'], .bool true]) (by simp [results, Try.results24, go_sem, hq]) rfl ?_
    exact ⟨.slice A' n' c', vs', by rw [HG.out], by rw [HR.out]; exact HF.out.1, HF.out.2⟩
  · have HG : Hid (goodM L = false) := by show goodM L = false; simpa using hg
    have HR : Hid (transR L = []) := if_neg hg
    clear hg
    go_enter Try.func24, Try.ntmps24
    go_wp2_with fail
    refine (sgood_any _ L _ HS.out).mono ?_
    rintro e w3 ⟨rfl, k3⟩
    rw [HG.out]
    have hq := cell_turn k3 (B := w.heap.size + 1) (o := 0) (x := .slice none 0 0) (by simp) (by rw [HSZ.out]; omega)
    have hqf := frozen_turn k3 (B := w.heap.size + 1) (o := 0) (x := false) (by simp) (by rw [HSZ.out]; omega)
    have HB3 := Lib.hid (k3.base HB.out (by rw [HSZ.out]; omega) (by omega))
    clear k3
    go_wp2_with fail
    refine bodyPost_ret (v := .tuple #[.agg #[.slice none 0 0], .bool false]) (by simp [results, Try.results24, go_sem, hq]) rfl ?_
    exact ⟨_, [], by rw [HG.out], by rw [HR.out]; exact OwnM.nil _ _ _ _, TurnIn.of_below (HB3.out.setCell (Nat.le_succ _) _)⟩

end Go.Proofs.Ytldmefelnpgohaa
