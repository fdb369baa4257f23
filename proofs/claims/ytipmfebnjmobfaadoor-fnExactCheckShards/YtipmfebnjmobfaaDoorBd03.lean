/- Joined texts: MatI, Boxes, ShardWalks, ShardArgs, Shape, SplitMath, JoinMath. -/
import Derived.Test.YtipmfebnjmobfaaDoorBd02
import Derived.Test.YtipmfebnjmobfaaDoorBd00
import Derived.Test.YtipmfebnjmobfaaDoorBd01
set_option linter.unusedSimpArgs false
set_option linter.unusedVariables false
/- The program's Identity, Transposed, Vandermonde and Cauchy. -/
namespace G294
open Go Go.RowKit
theorem turn_setCell (w : World) (B o : Nat) (x : Value) : TurnIn B (B + 1) w (w.setCell ⟨B, o, none⟩ x) :=
  ⟨rfl, rfl, rfl, by simp, fun k hk hd => heap_setCell_other w ⟨B, o, none⟩ k x (by intro e; simp at e; omega)⟩
theorem cell_set_other (w : World) {B B' : Nat} (o o' : Nat) (x : Value) (h : B ≠ B') : (w.setCell ⟨B, o, none⟩ x).cell? ⟨B', o', none⟩ = w.cell? ⟨B', o', none⟩ :=
  World.cell?_of_block (heap_setCell_other w ⟨B, o, none⟩ B' x (by intro e; simp at e; omega))
theorem frozen_set_other (w : World) {B B' : Nat} (o o' : Nat) (x : Value) (h : B ≠ B') : (w.setCell ⟨B, o, none⟩ x).frozen? ⟨B', o', none⟩ = w.frozen? ⟨B', o', none⟩ :=
  World.frozen?_of_block (heap_setCell_other w ⟨B, o, none⟩ B' x (by intro e; simp at e; omega))
/-- a result is stored into a variable that the call made ahead of it -/
theorem ret_store {E EE : TypeId} {w w1 w' : World} {v : Value} {L : Mat} {vs : List Value} (hb : Below w.heap.size w w1) (hM : OwnM E EE w' w1.heap.size w'.heap.size v L vs) (ht : TurnIn 0 0 w1 w') (B o : Nat) (h1 : w.heap.size ≤ B) (h2 : B < w1.heap.size) (x : Value) :
    OwnM E EE (w'.setCell ⟨B, o, none⟩ x) w.heap.size (w'.setCell ⟨B, o, none⟩ x).heap.size v L vs ∧ TurnIn 0 0 w (w'.setCell ⟨B, o, none⟩ x) := by
  have k := turn_setCell w' B o x
  have hs := k.size
  refine ⟨(hM.keep k (by omega)).wider (by have := hb.size; omega) hs (Nat.le_refl _), TurnIn.of_below ?_⟩
  have h3 : Below w.heap.size w w' := ht.base hb hb.size (by omega)
  exact h3.setCell h1 _
theorem cell_turn {w w' : World} (t : TurnIn 0 0 w w') {B o : Nat} {x : Value} (h : w.cell? ⟨B, o, none⟩ = some x) (hB : B < w.heap.size) : w'.cell? ⟨B, o, none⟩ = some x := (t.to_below.cell (p := ⟨B, o, none⟩) hB).trans h
theorem frozen_turn {w w' : World} (t : TurnIn 0 0 w w') {B o : Nat} {x : Bool} (h : w.frozen? ⟨B, o, none⟩ = x) (hB : B < w.heap.size) : w'.frozen? ⟨B, o, none⟩ = x := (t.to_below.frozen (p := ⟨B, o, none⟩) hB).trans h
end G294
namespace Go.Proofs.YtipmfebnjmobfaaDoor
open Go.RowKit G294

set_option maxHeartbeats 1000000 in
theorem identity_own (n : Int) (w : World) : Calls Tryd.prog 84 #[.int .i64 n] w (RetMatOk 5 42 w (idR n) (idOk n)) := by
  have hb1 : Below w.heap.size w (w.alloc (.cells #[.slice none 0 0] 60)) := (Below.refl _ _).alloc (Nat.le_refl _) _
  by_cases h : goodI n = true
  · have HO := Lib.hid h
    have h2 : 1 ≤ n ∧ n ≤ 16 := by simpa [goodI] using h
    obtain ⟨m, rfl⟩ := Int.eq_ofNat_of_zero_le (show 0 ≤ n by omega)
    have HR : Hid (idR m = mkM m m idF) := by show idR m = _; unfold idR; rw [if_pos HO.out]; simp
    clear h
    go_enter Tryd.func84, Tryd.ntmps84
    go_wp2_with fail
    refine (goodSide_any _ _).mono ?_
    rintro e w' ⟨rfl, rfl⟩
    rw [HO.out]
    go_wp2_with fail
    refine (identityGridB m _ (by omega)).mono ?_
    rintro e w' ⟨v', vs', rfl, hM, ht⟩
    obtain ⟨A', n', c', rfl⟩ := hM.isSlice
    have hq := cell_turn ht (B := w.heap.size) (o := 0) (x := .slice none 0 0) (by simp) (by simp)
    have hqf := frozen_turn ht (B := w.heap.size) (o := 0) (x := false) (by simp) (by simp)
    have HF := Lib.hid (ret_store hb1 hM ht w.heap.size 0 (Nat.le_refl _) (by simp) (.slice A' n' c'))
    clear hM ht hb1
    go_wp2_with fail
    refine bodyPost_ret (v := .tuple #[.agg #[.slice A' n' c'], .bool true]) (by simp [results, Tryd.results84, go_sem, hq]) rfl ?_
    exact ⟨.slice A' n' c', vs', by show _ = Ending.returned (.tuple #[.agg #[.slice A' n' c'], .bool (idOk m)]); unfold idOk; rw [HO.out], by rw [HR.out]; exact HF.out.1, HF.out.2⟩
  · have HO : Hid (goodI n = false) := by show goodI n = false; simpa using h
    have HR : Hid (idR n = []) := if_neg h
    clear h
    go_enter Tryd.func84, Tryd.ntmps84
    go_wp2_with fail
    refine (goodSide_any _ _).mono ?_
    rintro e w' ⟨rfl, rfl⟩
    rw [HO.out]
    go_wp2_with fail
    refine bodyPost_ret (v := .tuple #[.agg #[.slice none 0 0], .bool false]) (by simp [results, Tryd.results84, go_sem]) rfl ?_
    exact ⟨_, [], by unfold idOk; rw [HO.out], by rw [HR.out]; exact OwnM.nil _ _ _ _, TurnIn.of_below hb1⟩

theorem vand_u8 (i j : Nat) (hi : i < 256) : ((vandF i j).toNat : Int) = (gp i j : Nat) := by
  unfold vandF; rw [UInt8.toNat_ofNat', Nat.mod_eq_of_lt (gp_lt hi j)]

theorem cau_u8 (c i j : Nat) (h1 : c + i < 256) (h2 : j < 256) : ((cauF c i j).toNat : Int) = (gi ((c + i) ^^^ j) : Nat) := by
  unfold cauF; rw [UInt8.toNat_ofNat', Nat.mod_eq_of_lt (gi_lt (xor_lt h1 h2))]

set_option maxHeartbeats 1000000 in
theorem cauAt (r c B : Nat) (w : World) (hr : r ≤ 16) (hc : c ≤ 16) (hB : B < w.heap.size) (hv : w.cell? ⟨B, 0, none⟩ = some (.int .i64 c)) (ht : Tab w) (h0 : 1 < w.heap.size) :
    GivesAt Tryd.prog 128 #[.pointer (some ⟨B, 0, none⟩)] r c (cauF c) w := by
  intro W i j hb hi hj
  have hv' := (hb.cell (p := ⟨B, 0, none⟩) hB).trans hv
  have htW : Tab W := ht.below hb h0
  have HV := Lib.hid (cau_u8 c i j (by omega) (by omega))
  have HX : Hid (bits BinOp.xor IntKind.u8 ((c : Int) + (i : Int)) (j : Int) = (((c + i) ^^^ j : Nat) : Int)) := by
    show bits BinOp.xor IntKind.u8 ((c : Int) + (i : Int)) (j : Int) = _
    rw [← Int.natCast_add]; exact u8_xor_nat (c + i) j (by omega) (by omega)
  clear ht hv
  go_enter Tryd.func128, Tryd.ntmps128
  go_wp2_with fail
  rw [HX.out]
  refine (inverse_any ((c + i) ^^^ j) (xor_lt (by omega) (by omega)) _ htW).mono ?_
  rintro e w' ⟨rfl, rfl⟩
  go_wp2_with fail
  go_ret
  exact ⟨by rw [HV.out]; rfl, 0, rfl⟩

set_option maxRecDepth 100000 in
set_option maxHeartbeats 1000000 in
theorem cauchy_own (n m : Int) (w : World) (ht : Tab w) (h0 : 1 < w.heap.size) :
    Calls Tryd.prog 85 #[.int .i64 n, .int .i64 m] w (RetMatOk 5 42 w (cauR n m) (sidesOk n m)) := by
  have hb0 : Below w.heap.size w (w.alloc (.cells #[.int .i64 m] 3)) := (Below.refl _ _).alloc (Nat.le_refl _) _
  have hb1 : Below w.heap.size w ((w.alloc (.cells #[.int .i64 m] 3)).alloc (.cells #[.slice none 0 0] 60)) := hb0.alloc (by simp) _
  have HT := Lib.hid (ht.below hb1 h0)
  have HOdef : Hid (sidesOk n m = (goodI n && goodI m)) := rfl
  clear ht hb0
  by_cases h : goodI n = true
  · have H1 := Lib.hid h
    by_cases h' : goodI m = true
    · have H2 := Lib.hid h'
      have HO : Hid (sidesOk n m = true) := by show sidesOk n m = true; rw [HOdef.out, h, h']; rfl
      have b1 : 1 ≤ n ∧ n ≤ 16 := by simpa [goodI] using h
      have b2 : 1 ≤ m ∧ m ≤ 16 := by simpa [goodI] using h'
      obtain ⟨r, rfl⟩ := Int.eq_ofNat_of_zero_le (show 0 ≤ n by omega)
      obtain ⟨c, rfl⟩ := Int.eq_ofNat_of_zero_le (show 0 ≤ m by omega)
      have HR : Hid (cauR r c = mkM r c (cauF c)) := by show cauR r c = _; unfold cauR; rw [if_pos HO.out]; simp
      have eg := enters_of Tryd.func128 (by kernel_rfl) rfl
      have HG := Lib.hid (cauAt r c w.heap.size _ (by omega) (by omega) (by simp; omega) (by simp) HT.out (by simp <;> omega))
      clear h h'
      go_enter Tryd.func85, Tryd.ntmps85
      go_wp2_with fail
      refine (goodSide_any _ _).mono ?_
      rintro e w' ⟨rfl, rfl⟩
      rw [H1.out]
      go_wp2_with fail
      refine (goodSide_any _ _).mono ?_
      rintro e w' ⟨rfl, rfl⟩
      rw [H2.out]
      go_wp2_with fail
      refine (newGridB r c _ _ _ _ eg HG.out (by omega) (by omega)).mono ?_
      rintro e w' ⟨v', vs', rfl, hM, ht⟩
      obtain ⟨A', n', c', rfl⟩ := hM.isSlice
      have hq := cell_turn ht (B := w.heap.size + 1) (o := 0) (x := .slice none 0 0) (by simp) (by simp)
      have hqf := frozen_turn ht (B := w.heap.size + 1) (o := 0) (x := false) (by simp) (by simp)
      have HF := Lib.hid (ret_store hb1 hM ht (w.heap.size + 1) 0 (Nat.le_succ _) (by simp) (.slice A' n' c'))
      clear hM ht hb1
      go_wp2_with fail
      refine bodyPost_ret (v := .tuple #[.agg #[.slice A' n' c'], .bool true]) (by simp [results, Tryd.results85, go_sem, hq]) rfl ?_
      exact ⟨.slice A' n' c', vs', by rw [HO.out], by rw [HR.out]; exact HF.out.1, HF.out.2⟩
    · have H2 : Hid (goodI m = false) := by show goodI m = false; simpa using h'
      have HO : Hid (sidesOk n m = false) := by show sidesOk n m = false; rw [HOdef.out, H2.out]; simp
      have HR : Hid (cauR n m = []) := if_neg (by rw [HO.out]; simp)
      clear h h'
      go_enter Tryd.func85, Tryd.ntmps85
      go_wp2_with fail
      refine (goodSide_any _ _).mono ?_
      rintro e w' ⟨rfl, rfl⟩
      rw [H1.out]
      go_wp2_with fail
      refine (goodSide_any _ _).mono ?_
      rintro e w' ⟨rfl, rfl⟩
      rw [H2.out]
      go_wp2_with fail
      refine bodyPost_ret (v := .tuple #[.agg #[.slice none 0 0], .bool false]) (by simp [results, Tryd.results85, go_sem]) rfl ?_
      exact ⟨_, [], by rw [HO.out], by rw [HR.out]; exact OwnM.nil _ _ _ _, TurnIn.of_below hb1⟩
  · have H1 : Hid (goodI n = false) := by show goodI n = false; simpa using h
    have HO : Hid (sidesOk n m = false) := by show sidesOk n m = false; rw [HOdef.out, H1.out]; simp
    have HR : Hid (cauR n m = []) := if_neg (by rw [HO.out]; simp)
    clear h
    go_enter Tryd.func85, Tryd.ntmps85
    go_wp2_with fail
    refine (goodSide_any _ _).mono ?_
    rintro e w' ⟨rfl, rfl⟩
    rw [H1.out]
    go_wp2_with fail
    refine bodyPost_ret (v := .tuple #[.agg #[.slice none 0 0], .bool false]) (by simp [results, Tryd.results85, go_sem]) rfl ?_
    exact ⟨_, [], by rw [HO.out], by rw [HR.out]; exact OwnM.nil _ _ _ _, TurnIn.of_below hb1⟩
end Go.Proofs.YtipmfebnjmobfaaDoor

/- Struct variables of a law: blocks of one cell, kept; sizes of results. -/
namespace G294
open Go Go.RowKit
theorem box_keep {w w' : World} {B a b : Nat} {x : Value} (h : w.cell? ⟨B, 0, none⟩ = some x) (hl : B < w.heap.size) (t : TurnIn a b w w') (d : B < a ∨ b ≤ B) : w'.cell? ⟨B, 0, none⟩ = some x :=
  (World.cell?_of_block (t.block B hl d)).trans h
theorem alloc_cell (w : World) (v : Value) (T : TypeId) : (w.alloc (.cells #[v] T)).cell? ⟨w.heap.size, 0, none⟩ = some v := by simp
theorem alloc_lt (w : World) (o : Obj) : w.heap.size < (w.alloc o).heap.size := by rw [World.size_alloc]; omega
theorem undrew {w w' : World} {a b : Nat} (t : TurnIn a b w.drew w') : TurnIn a b w w' := ⟨t.os, t.tape, t.output, t.size, t.block⟩
theorem transR_siz (m : Mat) : sizM (transR m) ≤ 256 := by
  unfold transR; split
  · rename_i h; have := (goodM_iff m).1 h; exact Nat.le_trans (Nat.le_trans (sizM_le_mul _ m.length (fun i hi => by rw [mkM_getD _ _ _ _ (by simpa using hi)]; simp)) (by rw [mkM_length]; exact Nat.mul_le_mul (show wid m ≤ 16 by omega) (show m.length ≤ 16 by omega))) (by omega)
  · simp [sizM]
theorem sizM_mkM (r c : Nat) (F : Ents) : sizM (mkM r c F) ≤ r * c := by
  have := sizM_le_mul (mkM r c F) c (fun i hi => by rw [mkM_getD _ _ _ _ (by simpa using hi)]; simp)
  simpa using this
theorem sizM_side {r c : Nat} (F : Ents) (hr : r ≤ 16) (hc : c ≤ 16) : sizM (mkM r c F) ≤ 256 := Nat.le_trans (sizM_mkM r c F) (Nat.mul_le_mul hr hc)
theorem idR_siz (n : Int) : sizM (idR n) ≤ 256 := by
  unfold idR; split
  · rename_i h; simp [goodI] at h; exact sizM_side _ (by omega) (by omega)
  · simp [sizM]
theorem sides_b {r c : Int} (h : sidesOk r c = true) : r.toNat ≤ 16 ∧ c.toNat ≤ 16 := by
  simp [sidesOk, goodI] at h; omega
theorem vandR_siz (r c : Int) : sizM (vandR r c) ≤ 256 := by
  unfold vandR; split
  · rename_i h; exact sizM_side _ (sides_b h).1 (sides_b h).2
  · simp [sizM]
theorem cauR_siz (r c : Int) : sizM (cauR r c) ≤ 256 := by
  unfold cauR; split
  · rename_i h; exact sizM_side _ (sides_b h).1 (sides_b h).2
  · simp [sizM]
theorem LieM.isSlice {w : World} {lo hi : Nat} {v : Value} {L : Mat} (h : LieM w lo hi v L) : ∃ A n c, v = .slice A n c := by
  obtain ⟨A, c, e, _⟩ := h.seen.len
  exact ⟨A, _, c, e⟩
end G294

/- Contracts of the laws' helpers on []Shard: equality, marks, marks held. -/
namespace Go.Proofs.YtipmfebnjmobfaaDoor
open Go.RowKit G294

theorem infoShard : (Tryd.prog.info? 35).map (fun i => (i.zero, i.size, i.bytes)) = some (some (.agg #[.int .i64 0, .string ⟨#[]⟩]), 2, 24) := by kernel_rfl

set_option maxRecDepth 100000 in
set_option maxHeartbeats 1000000 in
theorem eqShard_same (n : Int) (s : List UInt8) (w : World) : Calls Tryd.prog 23 #[.agg #[.int .i64 n, .string (str s)], .agg #[.int .i64 n, .string (str s)]] w (RetBool w true) := by
  have hb0 : Below w.heap.size w (w.alloc (.cells #[.int .i64 n, .string (str s)] 35)) := (Below.refl _ _).alloc (Nat.le_refl _) _
  have hb1 : Below w.heap.size w ((w.alloc (.cells #[.int .i64 n, .string (str s)] 35)).alloc (.cells #[.int .i64 n, .string (str s)] 35)) := hb0.alloc (by simp) _
  have hbb := str_same s
  have hnn : ((n : Int) != (n : Int)) = false := by simp
  clear hb0
  go_enter Tryd.func23, Tryd.ntmps23
  go_wp2_with fail
  go_ret
  exact ⟨rfl, TurnIn.of_below hb1⟩

set_option maxRecDepth 100000 in
set_option maxHeartbeats 1000000 in
theorem eqShardS_same (v u : Value) (l : List Sh) (w : World) (hv : SeenH w v l) (hu : SeenH w u l) :
    Calls Tryd.prog 17 #[v, u] w (RetBool w true) := by
  obtain ⟨A, c, rfl, hlc, hcm, hx⟩ := hv
  obtain ⟨A', c', rfl, hlc', hcm', hx'⟩ := hu
  unfold maxLen at hcm hcm'
  generalize hnn : l.length = n at *
  have HN := Lib.hid hnn
  clear hnn
  have hbn : ((n : Int) != (n : Int)) = false := by simp
  go_enter Tryd.func17, Tryd.ntmps17
  go_wp2_with fail
  go_loopw [5] (fun i wr => ∃ k : Nat, k ≤ n ∧ i = .int .i64 k ∧ Below w.heap.size w wr)
    (fun i _ => n - (intOf i).toNat)
  case atStart => exact ⟨0, Nat.zero_le _, rfl, Below.refl _ _⟩
  case round =>
    obtain ⟨k, hk, rfl, hb⟩ := hrel
    by_cases hlt : k < n
    · obtain ⟨b, off, rfl, hbl, hcell⟩ := hx (by omega)
      obtain ⟨b', off', rfl, hbl', hcell'⟩ := hx' (by omega)
      obtain ⟨⟨no, s⟩, hks⟩ := at_lt HN.out hlt
      have hc1 := (hb.cell (p := ⟨b, off + k * 2, none⟩) hbl).trans (hcell k _ hks).1
      have hc2 := (hb.cell (p := ⟨b, off + k * 2 + 1, none⟩) hbl).trans (hcell k _ hks).2
      have hd1 := (hb.cell (p := ⟨b', off' + k * 2, none⟩) hbl').trans (hcell' k _ hks).1
      have hd2 := (hb.cell (p := ⟨b', off' + k * 2 + 1, none⟩) hbl').trans (hcell' k _ hks).2
      simp only at hc1 hc2 hd1 hd2
      clear hcell hcell' hx hx'
      have hbs := hb.size
      have hki : (k : Int) < (n : Int) := by omega
      go_wp2_with fail
      go_region_held3 (fun w' => (w'.cell? ⟨b, off + k * 2, none⟩ = some (.int .i64 no) ∧ w'.cell? ⟨b, off + k * 2 + 1, none⟩ = some (.string (str s))) ∧ w'.cell? ⟨b', off' + k * 2, none⟩ = some (.int .i64 no) ∧ w'.cell? ⟨b', off' + k * 2 + 1, none⟩ = some (.string (str s)))
        (first | exact ⟨⟨hc1, hc2⟩, hd1, hd2⟩ | exact ⟨⟨cell_turn ht hc1 (by simp; omega), cell_turn ht hc2 (by simp; omega)⟩, cell_turn ht hd1 (by simp; omega), cell_turn ht hd2 (by simp; omega)⟩)
        ((go_at_call 23; refine (eqShard_same no s _).mono ?_; rintro e w' ⟨rfl, ht⟩))
      all_goals
        have hb2 : Below w.heap.size w w' := ht.base (below_drewN hb 1) (by simp; omega) (by omega)
        go_wp2_with fail
        go_roundw
        case rel => exact ⟨k + 1, by omega, by go_num, hb2⟩
        case measure => simp [intOf]; omega
    · obtain rfl : k = n := by omega
      go_wp2_with fail
      go_ret
      exact ⟨rfl, TurnIn.of_below hb⟩

set_option maxRecDepth 100000 in
set_option maxHeartbeats 2000000 in
theorem markShardS_own (v : Value) (l : List Sh) (k0 lo hi : Nat) (w : World) (hv : OwnSh 35 w lo hi v l) (h1 : 0 < k0) (hk0 : k0 + l.length * 2 ≤ 1000000000000) :
    Calls Tryd.prog 18 #[v, .int .i64 k0] w (RetMarkH 35 w lo hi v k0 l.length) := by
  have hown0 := hv
  rcases hv.1.2 with ⟨rfl, hn⟩ | ⟨g, cap, cur, rfl, hbg, hg, hnc, hcm, hcs, ht⟩
  · have : l = [] := List.eq_nil_of_length_eq_zero hn
    subst this
    have HE := Lib.hid hown0
    clear hown0 hv hn
    go_enter Tryd.func18, Tryd.ntmps18
    go_wp2_with fail
    refine wp_loop_once ?_
    go_wp2_with fail
    go_ret
    exact ⟨rfl, HE.out, ⟨rfl, rfl, rfl, Nat.le_refl _, fun _ _ _ => rfl⟩⟩
  · have hgh : g < hi := hv.2.2 g rfl
    have htop : hi ≤ w.heap.size := hv.2.1
    replace hown0 := hv.1
    clear hv hg ht hcs
    unfold maxLen at hcm
    generalize hnn : l.length = n at *
    have HN := Lib.hid hnn
    clear hnn
    go_enter Tryd.func18, Tryd.ntmps18
    go_wp2_with fail
    go_loopw [1, 5] (fun q i wr => ∃ k : Nat, k ≤ n ∧ i = .int .i64 k ∧ q = .int .i64 ((k0 + k * 2 : Nat) : Int) ∧ wr.ownsRow lo 35 2 (.slice (some ⟨g, 0, none⟩) n cap) n (shs ((marksH k0 n).take k ++ l.drop k)) ∧ TurnIn lo hi w wr)
      (fun _ i _ => n - (intOf i).toNat)
    case atStart => exact ⟨0, Nat.zero_le _, rfl, by simp, by simpa using hown0, ⟨rfl, rfl, rfl, Nat.le_refl _, fun _ _ _ => rfl⟩⟩
    case round =>
      obtain ⟨k, hk, rfl, rfl, hown, hgr⟩ := hrel
      clear hown0
      by_cases hlt : k < n
      · have hki : (k : Int) < (n : Int) := by omega
        have hlen : ((marksH k0 n).take k ++ l.drop k).length = n := by simp [HN.out]; omega
        obtain ⟨⟨no, s⟩, hks⟩ := at_lt hlen hlt
        obtain ⟨hkl, hke⟩ := List.getElem?_eq_some_iff.1 hks
        have hco : wr.cell? ⟨g, k * 2, none⟩ = some (.int .i64 no) := by
          rw [hown.cellAt (k * 2) (by omega), shs_no _ k hkl, hke]
        have hfr := hown.frozenAt (k * 2)
        have hst := hown.stored (k * 2) (.int .i64 ((k0 + k * 2 : Nat) : Int))
        have hst2 : TurnIn lo hi w _ := turn_trans hgr (TurnIn.of_grown (lo := lo) (hi := hi) hst.2 (fun g' e => by simp [Value.ownBlock] at e; omega)) (by omega)
        have HL : Hid ((((shs ((marksH k0 n).take k ++ l.drop k)).set (k * 2) (.int .i64 ((k0 + k * 2 : Nat) : Int))).set (k * 2 + 1) (.string (str (mtext (k0 + k * 2 + 1))))) = shs ((marksH k0 n).take (k + 1) ++ l.drop (k + 1))) := by
          show _ = _
          rw [shs_set _ k (((k0 + k * 2 : Nat) : Int), mtext (k0 + k * 2 + 1)) hkl, take_set_over _ _ k _ (by rw [List.getElem?_eq_getElem (by simpa using hlt), marksH_get]) (by simp [HN.out])]
        have HD : Hid ((shs ((marksH k0 n).take k ++ l.drop k))[k * 2 + 1]? = some (.string (str s))) := by
          show _ = _
          rw [shs_data _ k hkl, hke]
        have HC1 : Hid (((k0 + k * 2 : Nat) : Int) + 1 = ((k0 + k * 2 + 1 : Nat) : Int)) := (Int.natCast_add _ 1).symm
        generalize shs ((marksH k0 n).take k ++ l.drop k) = XS at *
        obtain ⟨m, hm⟩ : ∃ m, m = k0 + k * 2 := ⟨_, rfl⟩
        rw [← hm] at hst hst2 HL HC1 ⊢
        have hm1 : m + 2 ≤ 1000000000000 := by omega
        have hm0 : 0 < m := by omega
        have HM := Lib.hid hm
        have hst1 := hst.1
        have HB2 := Lib.hid hst2
        have HCT : Hid (∀ W, Calls Tryd.prog 66 #[.int .i64 ((m : Int) + 1)] W (RetStr W (mtext (m + 1)))) := fun W => HC1.out ▸ markText_ret (m + 1) W (by omega) (by omega)
        clear hst hown hke hkl hks hlen hgr hst2 hm
        go_wp2_with fail
        refine (HCT.out _).mono ?_
        rintro e w' ⟨rfl, ht⟩
        have hown' := owns_turn0 hst1 ht
        have hsz := ht.size
        have hgs := HB2.out.size
        have hco2 : w'.cell? ⟨g, k * 2 + 1, none⟩ = some (.string (str s)) := by
          rw [hown'.cellAt (k * 2 + 1) (by omega), List.getElem?_set_ne (by omega)]; exact HD.out
        have hfr2 := hown'.frozenAt (k * 2 + 1)
        have hst3 := hown'.stored (k * 2 + 1) (.string (str (mtext (m + 1))))
        rw [HL.out] at hst3
        have hst4 : TurnIn lo hi w _ := turn_trans (turn_trans HB2.out ht (by omega)) (TurnIn.of_grown (lo := lo) (hi := hi) hst3.2 (fun g' e => by simp [Value.ownBlock] at e; omega)) (by omega)
        have hst5 := hst3.1
        clear hst3 hown' hst1
        go_wp2_with fail
        go_roundw
        case rel => exact ⟨k + 1, by omega, by go_num, by have := HM.out; go_num, hst5, hst4⟩
        case measure => simp [intOf]; omega
      · obtain rfl : k = n := by omega
        go_wp2_with fail
        go_ret
        refine ⟨rfl, ?_, hgr⟩
        rw [List.take_of_length_le (by simp), List.drop_of_length_le (by rw [HN.out]; exact Nat.le_refl _), List.append_nil] at hown
        exact ⟨by simpa using hown, Nat.le_trans htop hgr.size, fun g' e => by simp [Value.ownBlock] at e; omega⟩

end Go.Proofs.YtipmfebnjmobfaaDoor

/- Shards as arguments: the laws' copies and sizes, and the program's textsOf. -/
namespace G294
open Go Go.RowKit
def sizH (l : List Sh) : Nat := sizM (l.map (·.2))
theorem sizH_take_succ (l : List Sh) (k : Nat) (h : k < l.length) : sizH (l.take (k + 1)) = sizH (l.take k) + l[k].2.length := by
  unfold sizH
  rw [List.map_take, List.map_take, sizM_take_succ _ k (by simpa using h)]
  simp [List.getD, h]
theorem sizH_take_le (l : List Sh) (k : Nat) : sizH (l.take k) ≤ sizH l := by
  unfold sizH
  rw [List.map_take]; exact sizM_take_le _ _
theorem toList_madeCells_shs (n : Nat) : (madeCells #[.int .i64 0, .string ⟨#[]⟩] (n * 2)).toList = shs (List.replicate n ((0 : Int), ([] : List UInt8))) := by
  apply List.ext_getElem?
  intro j
  by_cases hj : j < n * 2
  · rcases Nat.mod_two_eq_zero_or_one j with h | h
    · have e : j = (j / 2) * 2 := by omega
      rw [e, shs_no _ (j / 2) (by simp; omega)]
      simp [madeCells, show j / 2 * 2 < n * 2 by omega]
    · have e : j = (j / 2) * 2 + 1 := by omega
      have h2 : (j / 2 * 2 + 1) % 2 = 1 := by omega
      rw [e, shs_data _ (j / 2) (by simp; omega)]
      simp [madeCells, show j / 2 * 2 + 1 < n * 2 by omega, h2]
      rfl
  · rw [List.getElem?_eq_none (by simp [madeCells]; omega), List.getElem?_eq_none (by simp; omega)]
end G294
namespace Go.Proofs.YtipmfebnjmobfaaDoor
open Go.RowKit G294

set_option maxRecDepth 100000 in
set_option maxHeartbeats 1000000 in
theorem toShard_own (n : Int) (s : List UInt8) (w : World) : Calls Tryd.prog 63 #[.agg #[.int .i64 n, .string (str s)]] w fun e w' => e = .returned (.agg #[.int .i64 n, .string (str s)]) ∧ TurnIn 0 0 w w' := by
  have kk : TurnIn 0 0 w (((w.alloc (.cells #[.int .i64 n, .string (str s)] 82)).alloc (.cells #[.int .i64 n, .string (str s)] 35)).alloc (.cells #[.int .i64 n, .string (str s)] 35)) := turn_trans (turn_trans (turn_alloc _ _) (turn_alloc _ _) (by omega)) (turn_alloc _ _) (by omega)
  go_enter Tryd.func63, Tryd.ntmps63
  go_wp2_with fail
  refine bodyPost_ret (v := .agg #[.int .i64 n, .string (str s)]) (by simp [results, Tryd.results63, go_sem]) rfl ?_
  exact ⟨rfl, kk⟩

set_option maxRecDepth 100000 in
set_option maxHeartbeats 1000000 in
theorem textsOf_own (v : Value) (l : List Sh) (w : World) (hv : SeenH w v l) (hn : l.length ≤ 1048576) : Calls Tryd.prog 115 #[v] w (RetStrs 9 w (l.map (·.2))) := by
  obtain ⟨i0, hi0, hz0, hz1, hz2⟩ := info_parts infoStr
  obtain ⟨A, c, rfl, hlc, hcm, hx⟩ := hv
  unfold maxLen at hcm
  have hlm : (l.map (·.2)).length = l.length := by simp
  generalize hT : l.map (·.2) = T at *
  have HTT := Lib.hid hT
  clear hT
  generalize hnn : l.length = n at *
  have HN := Lib.hid hnn
  have HLM := Lib.hid hlm
  clear hnn hlm
  go_enter Tryd.func115, Tryd.ntmps115
  go_wp2_with (at_make; refine wpList_make_full _ rfl _ _ _ rfl w.heap.size _ i0 _ 1 Tryd.underlying24 hi0 hz0 hz1 _ _ _ _ n rfl rfl rfl rfl ?b2 ?b3 ?b4 ?_)
  case b2 => rw [hz2]; omega
  case b3 => unfold maxLen; omega
  case b4 => exact Nat.le_refl _
  intro w1 hown1 hg1
  have hb1 : Below w.heap.size w w1 := below_of_grown hg1 (Nat.le_refl _) (by simp)
  rw [toList_madeCells_one] at hown1
  have hs1 := (hown1.lt w.heap.size rfl).2
  clear hg1
  go_wp2_with fail
  go_loopw [11] (fun i wr => ∃ k : Nat, k ≤ n ∧ i = .int .i64 k ∧ wr.ownsRow w.heap.size 9 1 (.slice (some ⟨w.heap.size, 0, none⟩) n n) n ((strs T).take k ++ List.replicate (n - k) (.string ⟨#[]⟩)) ∧ Below w.heap.size w wr)
    (fun i _ => n - (intOf i).toNat)
  case atStart => exact ⟨0, Nat.zero_le _, rfl, by simpa using hown1, hb1⟩
  case round =>
    obtain ⟨k, hk, rfl, hown, hb⟩ := hrel
    clear hown1 hb1
    by_cases hlt : k < n
    · obtain ⟨b, off, rfl, hbl, hcell⟩ := hx (by omega)
      obtain ⟨⟨no, s⟩, hks⟩ := at_lt HN.out hlt
      have hc1 := (hb.cell (p := ⟨b, off + k * 2, none⟩) hbl).trans (hcell k _ hks).1
      have hc2 := (hb.cell (p := ⟨b, off + k * 2 + 1, none⟩) hbl).trans (hcell k _ hks).2
      simp only at hc1 hc2
      have hki : (k : Int) < (n : Int) := by omega
      have hTk : (strs T)[k]? = some (.string (str s)) := by
        rw [← HTT.out]; simp [strs, hks]
      have HTK := Lib.hid hTk
      have hwr := (hown.lt w.heap.size rfl).2
      have hown2 := hown.alloc (.cells #[.int .i64 no, .string (str s)] 35)
      have hco : (wr.alloc (.cells #[.int .i64 no, .string (str s)] 35)).cell? ⟨w.heap.size, k, none⟩ = some (.string ⟨#[]⟩) := by
        have ht : ((strs T).take k).length = k := by simp [HLM.out]; omega
        rw [hown2.cellAt k (by omega), List.getElem?_append_right (by omega), ht, Nat.sub_self, List.getElem?_replicate, if_pos (by omega)]
      have hfr := hown2.frozenAt k
      have hst := hown.stored k (.string (str s))
      rw [take_set_next (strs T) _ k _ hTk (by simp [HLM.out]; omega)] at hst
      have hst1 := hst.1.alloc (.cells #[.int .i64 no, .string (str s)] 35)
      have hb2 := (hb.setCell (p := ⟨w.heap.size, k, none⟩) (Nat.le_refl _) (.string (str s))).alloc (by have := hb.size; simp; omega) (.cells #[.int .i64 no, .string (str s)] 35)
      clear hcell hx hown2 hTk
      go_wp2_with fail
      go_roundw
      case rel => exact ⟨k + 1, by omega, by go_num, by simpa [Nat.sub_sub] using hst1, hb2⟩
      case measure => simp [intOf]; omega
    · obtain rfl : k = n := by omega
      have hki : ¬ (k : Int) < (k : Int) := by omega
      go_wp2_with fail
      go_ret
      refine ⟨_, rfl, OwnStrs.of_made ?_, TurnIn.of_below hb⟩
      rw [List.take_of_length_le (by simp [HLM.out]), Nat.sub_self] at hown
      rw [HLM.out]
      simpa using hown

set_option maxRecDepth 100000 in
set_option maxHeartbeats 2000000 in
theorem toShardS_own (v : Value) (l : List Sh) (w : World) (hv : SeenH w v l) (hn : l.length ≤ 1048576) : Calls Tryd.prog 14 #[v] w (RetShs 35 w l) := by
  obtain ⟨i0, hi0, hz0, hz1, hz2⟩ := info_parts infoShard
  obtain ⟨A, c, rfl, hlc, hcm, hx⟩ := hv
  unfold maxLen at hcm
  generalize hnn : l.length = n at *
  have HN := Lib.hid hnn
  clear hnn
  go_enter Tryd.func14, Tryd.ntmps14
  go_wp2_with (at_make; refine wpList_make_full _ rfl _ _ _ rfl w.heap.size _ i0 _ 2 Tryd.underlying27 hi0 hz0 hz1 _ _ _ _ n rfl rfl rfl rfl ?b2 ?b3 ?b4 ?_)
  case b2 => rw [hz2]; omega
  case b3 => unfold maxLen; omega
  case b4 => exact Nat.le_refl _
  intro w1 hown1 hg1
  have hb1 : Below w.heap.size w w1 := below_of_grown hg1 (Nat.le_refl _) (by simp)
  rw [toList_madeCells_shs] at hown1
  clear hg1
  go_wp2_with fail
  go_loopw [4] (fun i wr => ∃ k : Nat, k ≤ n ∧ i = .int .i64 k ∧ wr.ownsRow w.heap.size 35 2 (.slice (some ⟨w.heap.size, 0, none⟩) n n) n (shs (l.take k ++ List.replicate (n - k) ((0 : Int), ([] : List UInt8)))) ∧ Below w.heap.size w wr)
    (fun i _ => n - (intOf i).toNat)
  case atStart => exact ⟨0, Nat.zero_le _, rfl, by simpa using hown1, hb1⟩
  case round =>
    obtain ⟨k, hk, rfl, hown, hb⟩ := hrel
    clear hown1 hb1
    by_cases hlt : k < n
    · obtain ⟨b, off, rfl, hbl, hcell⟩ := hx (by omega)
      obtain ⟨⟨no, s⟩, hks⟩ := at_lt HN.out hlt
      have hc1 := (hb.cell (p := ⟨b, off + k * 2, none⟩) hbl).trans (hcell k _ hks).1
      have hc2 := (hb.cell (p := ⟨b, off + k * 2 + 1, none⟩) hbl).trans (hcell k _ hks).2
      simp only at hc1 hc2
      have hki : (k : Int) < (n : Int) := by omega
      have hbs := hb.size
      have HKS := Lib.hid hks
      clear hcell hx hks
      go_wp2_with fail
      refine (toShard_own no s _).mono ?_
      rintro e w' ⟨rfl, ht⟩
      have hown' := owns_turn0 hown ht
      have hsz := ht.size
      have hlen : (l.take k ++ List.replicate (n - k) ((0 : Int), ([] : List UInt8))).length = n := by simp [HN.out]; omega
      have hkl : k < (l.take k ++ List.replicate (n - k) ((0 : Int), ([] : List UInt8))).length := by omega
      have hd1 : w'.cell? ⟨w.heap.size, k * 2, none⟩ = some (.int .i64 (l.take k ++ List.replicate (n - k) ((0 : Int), ([] : List UInt8)))[k].1) := by rw [hown'.cellAt (k * 2) (by omega), shs_no _ k hkl]
      have hd2 : w'.cell? ⟨w.heap.size, k * 2 + 1, none⟩ = some (.string (str (l.take k ++ List.replicate (n - k) ((0 : Int), ([] : List UInt8)))[k].2)) := by rw [hown'.cellAt (k * 2 + 1) (by omega), shs_data _ k hkl]
      have hf1 := hown'.frozenAt (k * 2)
      have hf2 := hown'.frozenAt (k * 2 + 1)
      have hst := hown'.stored (k * 2) (.int .i64 no)
      have hst2 := hst.1.stored (k * 2 + 1) (.string (str s))
      rw [shs_set _ k (no, s) hkl, take_set_next l _ k (no, s) HKS.out (by simp [HN.out]; omega)] at hst2
      have hb2 := ((ht.base hb (by omega) (by omega)).setCell (p := ⟨w.heap.size, k * 2, none⟩) (Nat.le_refl _) (.int .i64 no)).setCell (p := ⟨w.heap.size, k * 2 + 1, none⟩) (Nat.le_refl _) (.string (str s))
      generalize (l.take k ++ List.replicate (n - k) ((0 : Int), ([] : List UInt8)))[k] = old at hd1 hd2
      clear hown' hlen hkl hst hown
      go_wp2_with fail
      go_roundw
      case rel => exact ⟨k + 1, by omega, by go_num, by simpa [Nat.sub_sub] using hst2.1, hb2⟩
      case measure => simp [intOf]; omega
    · obtain rfl : k = n := by omega
      have hki : ¬ (k : Int) < (k : Int) := by omega
      go_wp2_with fail
      go_ret
      refine ⟨_, rfl, OwnSh.of_made ?_, TurnIn.of_below hb⟩
      rw [List.take_of_length_le (by rw [HN.out]; exact Nat.le_refl _), Nat.sub_self] at hown
      rw [HN.out]
      simpa using hown

set_option maxRecDepth 100000 in
set_option maxHeartbeats 1000000 in
theorem szShard_any (n : Int) (s : List UInt8) (left : Nat) (w : World) (hl : left ≤ 1048576) (hm : s.length ≤ maxLen) : Calls Tryd.prog 59 #[.agg #[.int .i64 n, .string (str s)], .int .i64 left] w (RetInt w (szV left s.length)) := by
  have kk : TurnIn 0 0 w (w.alloc (.cells #[.int .i64 n, .string (str s)] 82)) := turn_alloc _ _
  have hsz := str_size s
  generalize s.length = z at *
  unfold maxLen at hm
  by_cases h : z ≤ left
  · have HF := Lib.hid (szV_yes h)
    have hneg : ¬ ((left : Int) - (z : Int)) < 0 := by omega
    go_enter Tryd.func59, Tryd.ntmps59
    go_wp2_with fail
    go_ret
    exact ⟨by rw [HF.out]; exact congrArg (fun z => Ending.returned (.int .i64 z)) (by omega), kk⟩
  · have HF := Lib.hid (szV_no (show left < z by omega))
    have hneg : ((left : Int) - (z : Int)) < 0 := by omega
    go_enter Tryd.func59, Tryd.ntmps59
    go_wp2_with fail
    go_ret
    exact ⟨by rw [HF.out]; rfl, kk⟩

set_option maxRecDepth 100000 in
set_option maxHeartbeats 2000000 in
theorem szShardS_any (v : Value) (L : List Sh) (left : Nat) (w : World) (hv : SeenH w v L) (hmx : ∀ s ∈ L, s.2.length ≤ maxLen) (hl : left ≤ 1048576) :
    Calls Tryd.prog 12 #[v, .int .i64 left] w (RetInt w (szV left (L.length + sizH L))) := by
  obtain ⟨A, c, rfl, hlc, hcm, hx⟩ := hv
  unfold maxLen at hcm
  generalize hnn : L.length = n at *
  have HN := Lib.hid hnn
  clear hnn
  by_cases h0 : n ≤ left
  · go_enter Tryd.func12, Tryd.ntmps12
    go_wp2_with fail
    go_loopw [1, 5] (fun q i wr => ∃ k m : Nat, k ≤ n ∧ i = .int .i64 k ∧ q = .int .i64 m ∧ m ≤ left ∧ Hid (m + sizH (L.take k) + n = left) ∧ Below w.heap.size w wr) (fun _ i _ => n - (intOf i).toNat)
    case atStart => exact ⟨0, left - n, Nat.zero_le _, rfl, by go_num, by omega, by show left - n + sizH (L.take 0) + n = left; simp [sizH, sizM]; omega, Below.refl _ _⟩
    case round =>
      obtain ⟨k, m, hk, rfl, rfl, hmd, HM, hb⟩ := hrel
      by_cases hlt : k < n
      · have hki : (k : Int) < (n : Int) := by omega
        obtain ⟨b, off, rfl, hbl, hcell⟩ := hx (by omega)
        obtain ⟨⟨no, s⟩, hks⟩ := at_lt HN.out hlt
        obtain ⟨hkl, hke⟩ := List.getElem?_eq_some_iff.1 hks
        have hc1 := (hb.cell (p := ⟨b, off + k * 2, none⟩) hbl).trans (hcell k _ hks).1
        have hc2 := (hb.cell (p := ⟨b, off + k * 2 + 1, none⟩) hbl).trans (hcell k _ hks).2
        simp only at hc1 hc2
        have hmk : s.length ≤ maxLen := by have := hmx L[k] (List.getElem_mem hkl); rw [hke] at this; exact this
        have HT := Lib.hid (sizH_take_succ L k hkl)
        rw [hke] at HT
        have HTL := Lib.hid (sizH_take_le L (k + 1))
        have HMK := Lib.hid hmk
        have hbs := hb.size
        clear hcell hx hks hke hkl hmk
        go_wp2_with fail
        refine (szShard_any no s m _ (by omega) HMK.out).mono ?_
        rintro e w' ⟨rfl, ht⟩
        have hb2 := ht.base hb (by omega) (by omega)
        by_cases hle : s.length ≤ m
        · have HM2 : Hid (m - s.length + sizH (L.take (k + 1)) + n = left) := by
            show _ = left
            have h7 : sizH (L.take (k + 1)) = sizH (L.take k) + s.length := HT.out; have := HM.out; omega
          rw [szV_yes hle]
          generalize s.length = z at *
          have hneg : ¬ ((m - z : Nat) : Int) < 0 := by omega
          go_wp2_with fail
          go_roundw
          case rel => exact ⟨k + 1, m - z, by omega, by go_num, rfl, by omega, HM2, hb2⟩
          case measure => simp [intOf]; omega
        · have HF : Hid (szV left (n + sizH L) = -1) := by
            show _ = _
            apply szV_no
            have h7 : sizH (L.take (k + 1)) = sizH (L.take k) + s.length := HT.out; have := HTL.out; have := HM.out; omega
          rw [szV_no (show m < s.length by omega)]
          go_wp2_with fail
          go_ret
          exact ⟨by rw [HF.out]; rfl, TurnIn.of_below hb2⟩
      · obtain rfl : k = n := by omega
        have hki : ¬ (k : Int) < (k : Int) := by omega
        have HF : Hid (szV left (k + sizH L) = (m : Int)) := by
          have e := HM.out
          rw [List.take_of_length_le (by rw [HN.out]; exact Nat.le_refl _)] at e
          show _ = _
          rw [szV_yes (by omega)]; omega
        go_wp2_with fail
        go_ret
        exact ⟨by rw [HF.out]; rfl, TurnIn.of_below hb⟩
  · have HF : Hid (szV left (n + sizH L) = -1) := by show _ = _; exact szV_no (by omega)
    go_enter Tryd.func12, Tryd.ntmps12
    go_wp2_with fail
    go_ret
    exact ⟨by rw [HF.out]; rfl, TurnIn.refl w⟩

theorem szShardS_yes (v : Value) (L : List Sh) (left : Nat) (w : World) (hv : SeenH w v L) (hmx : ∀ s ∈ L, s.2.length ≤ maxLen) (h : L.length + sizH L ≤ left) (hl : left ≤ 1048576) :
    Calls Tryd.prog 12 #[v, .int .i64 left] w (RetInt w ((left - (L.length + sizH L) : Nat) : Int)) :=
  (szShardS_any v L left w hv hmx hl).mono fun e w' he => ⟨by rw [he.1, szV_yes h], he.2⟩

theorem szShardS_no (v : Value) (L : List Sh) (left : Nat) (w : World) (hv : SeenH w v L) (hmx : ∀ s ∈ L, s.2.length ≤ maxLen) (h : left < L.length + sizH L) (hl : left ≤ 1048576) :
    Calls Tryd.prog 12 #[v, .int .i64 left] w (RetInt w (-1)) :=
  (szShardS_any v L left w hv hmx hl).mono fun e w' he => ⟨by rw [he.1, szV_no h], he.2⟩

end Go.Proofs.YtipmfebnjmobfaaDoor

/- Shapes of codes: the program's goodDataCount and GoodShape, the model's GoodShape. -/
namespace G294
open Go Go.RowKit
def dataOk (k : Int) : Bool := decide (1 ≤ k ∧ k ≤ 8)
def shapeOk (k m : Int) : Bool := dataOk k && decide (1 ≤ m ∧ m ≤ 6)
theorem shapeOk_b {k m : Int} (h : shapeOk k m = true) : (1 ≤ k ∧ k ≤ 8) ∧ 1 ≤ m ∧ m ≤ 6 := by simpa [shapeOk, dataOk] using h
end G294
namespace Go.Proofs.YtipmfebnjmobfaaDoor
open Go.RowKit G294

set_option maxHeartbeats 400000 in
theorem goodDataCount_any (n : Int) (w : World) : Calls Tryd.prog 77 #[.int .i64 n] w fun e w' => e = .returned (.bool (dataOk n)) ∧ w = w' := by
  by_cases h1 : 1 ≤ n
  · have hd : decide (1 ≤ n) = true := by simpa using h1
    by_cases h2 : n ≤ 8
    · have HV : Hid (dataOk n = true) := by show dataOk n = true; simp [dataOk, h1, h2]
      go_enter Tryd.func77, Tryd.ntmps77
      go_wp2_with fail
      go_ret
      exact ⟨by rw [HV.out]; simp [h2], rfl⟩
    · have HV : Hid (dataOk n = false) := by show dataOk n = false; simp [dataOk, h2]
      go_enter Tryd.func77, Tryd.ntmps77
      go_wp2_with fail
      go_ret
      exact ⟨by rw [HV.out]; simp [h2], rfl⟩
  · have hd : decide (1 ≤ n) = false := by simpa using h1
    have HV : Hid (dataOk n = false) := by show dataOk n = false; simp [dataOk, h1]
    go_enter Tryd.func77, Tryd.ntmps77
    go_wp2_with fail
    go_ret
    exact ⟨by rw [HV.out]; rfl, rfl⟩

set_option maxHeartbeats 1000000 in
theorem goodShape_any (k m : Int) (w : World) : Calls Tryd.prog 41 #[.int .i64 k, .int .i64 m] w fun e w' => e = .returned (.bool (shapeOk k m)) ∧ w = w' := by
  by_cases h : dataOk k = true
  · have HO := Lib.hid h
    clear h
    by_cases h1 : 1 ≤ m
    · have hd : decide (1 ≤ m) = true := by simpa using h1
      by_cases h2 : m ≤ 6
      · have hd2 : decide (m ≤ 6) = true := by simpa using h2
        have HV : Hid (shapeOk k m = true) := by show shapeOk k m = true; simp [shapeOk, HO.out, h1, h2]
        go_enter Tryd.func41, Tryd.ntmps41
        go_wp2_with fail
        refine (goodDataCount_any _ _).mono ?_
        rintro e w' ⟨rfl, rfl⟩
        rw [HO.out]
        go_wp2_with fail
        go_ret
        exact ⟨by rw [HV.out]; simp [h2], rfl⟩
      · have hd2 : decide (m ≤ 6) = false := by simpa using h2
        have HV : Hid (shapeOk k m = false) := by show shapeOk k m = false; simp [shapeOk, h2]
        go_enter Tryd.func41, Tryd.ntmps41
        go_wp2_with fail
        refine (goodDataCount_any _ _).mono ?_
        rintro e w' ⟨rfl, rfl⟩
        rw [HO.out]
        go_wp2_with fail
        go_ret
        exact ⟨by rw [HV.out]; simp [h2], rfl⟩
    · have hd : decide (1 ≤ m) = false := by simpa using h1
      have HV : Hid (shapeOk k m = false) := by show shapeOk k m = false; simp [shapeOk, h1]
      go_enter Tryd.func41, Tryd.ntmps41
      go_wp2_with fail
      refine (goodDataCount_any _ _).mono ?_
      rintro e w' ⟨rfl, rfl⟩
      rw [HO.out]
      go_wp2_with fail
      go_ret
      exact ⟨by rw [HV.out]; simp [h1], rfl⟩
  · have HO : Hid (dataOk k = false) := by show dataOk k = false; simpa using h
    have HV : Hid (shapeOk k m = false) := by show shapeOk k m = false; simp [shapeOk, HO.out]
    clear h
    go_enter Tryd.func41, Tryd.ntmps41
    go_wp2_with fail
    refine (goodDataCount_any _ _).mono ?_
    rintro e w' ⟨rfl, rfl⟩
    rw [HO.out]
    go_wp2_with fail
    go_ret
    exact ⟨by rw [HV.out]; rfl, rfl⟩

set_option maxHeartbeats 1000000 in
theorem sGoodShape_any (k m : Int) (w : World) : Calls Tryd.prog 60 #[.int .i64 k, .int .i64 m] w fun e w' => e = .returned (.bool (shapeOk k m)) ∧ w = w' := by
  by_cases h : dataOk k = true
  · have HO : Hid (inB k 1 8 = true) := h
    have HV : Hid (shapeOk k m = inB m 1 6) := by show shapeOk k m = inB m 1 6; simp [shapeOk, h, inB]
    clear h
    go_enter Tryd.func60, Tryd.ntmps60
    go_wp2_with fail
    refine (l1In_any _ _ _ _).mono ?_
    rintro e w' ⟨rfl, rfl⟩
    rw [HO.out]
    go_wp2_with fail
    refine (l1In_any _ _ _ _).mono ?_
    rintro e w' ⟨rfl, rfl⟩
    go_wp2_with fail
    go_ret
    exact ⟨by rw [HV.out]; rfl, rfl⟩
  · have HO : Hid (inB k 1 8 = false) := by show inB k 1 8 = false; simpa [dataOk, inB] using h
    have HV : Hid (shapeOk k m = false) := by show shapeOk k m = false; simp [shapeOk, h]
    clear h
    go_enter Tryd.func60, Tryd.ntmps60
    go_wp2_with fail
    refine (l1In_any _ _ _ _).mono ?_
    rintro e w' ⟨rfl, rfl⟩
    rw [HO.out]
    go_wp2_with fail
    go_ret
    exact ⟨by rw [HV.out]; rfl, rfl⟩

end Go.Proofs.YtipmfebnjmobfaaDoor

/- The mathematics of SplitText and JoinShards. -/
namespace G294
open Go Go.RowKit
/-- the length of a part -/
def partSize (n k : Nat) : Nat := (n + k - 1) / k
def padded (s : List UInt8) (k : Nat) : List UInt8 := s ++ List.replicate (k * partSize s.length k - s.length) 0
def splitP (s : List UInt8) (k : Nat) (i : Nat) : List UInt8 := ((padded s k).drop (i * partSize s.length k)).take (partSize s.length k)
def splitL (s : List UInt8) (k : Nat) : List (List UInt8) := (List.range k).map (splitP s k)
def splitOk (s : List UInt8) (k : Int) : Bool := dataOk k && decide ((s.length : Int) ≤ k * 40)
def splitR (s : List UInt8) (k : Int) : List (List UInt8) := if splitOk s k then splitL s k.toNat else []
theorem partSize_mul (n k : Nat) (hk : 1 ≤ k) : n ≤ k * partSize n k := by
  unfold partSize
  have h := Nat.div_add_mod (n + k - 1) k
  have h2 := Nat.mod_lt (n + k - 1) (show 0 < k by omega)
  omega
theorem partSize_le (n k : Nat) (hk : 1 ≤ k) (h : n ≤ k * 40) : partSize n k ≤ 40 := by
  unfold partSize
  have h1 : n + k - 1 < 41 * k := by omega
  have := (Nat.div_lt_iff_lt_mul (show 0 < k by omega)).2 h1
  omega
theorem padded_length (s : List UInt8) (k : Nat) (hk : 1 ≤ k) : (padded s k).length = k * partSize s.length k := by
  have := partSize_mul s.length k hk
  simp [padded]; omega
theorem splitP_length (s : List UInt8) (k i : Nat) (hk : 1 ≤ k) (hi : i < k) : (splitP s k i).length = partSize s.length k := by
  unfold splitP
  rw [List.length_take, List.length_drop, padded_length s k hk]
  have : (i + 1) * partSize s.length k ≤ k * partSize s.length k := Nat.mul_le_mul_right _ hi
  rw [Nat.add_mul] at this
  omega
@[simp] theorem splitL_length (s : List UInt8) (k : Nat) : (splitL s k).length = k := by simp [splitL]
theorem splitL_succ (s : List UInt8) (k i : Nat) : (List.range (i + 1)).map (splitP s k) = (List.range i).map (splitP s k) ++ [splitP s k i] := by simp [List.range_succ]
theorem extract_str (l : List UInt8) (a b : Nat) : (str l).extract a b = str ((l.drop a).take (b - a)) := by
  apply ByteArray.ext
  rw [ByteArray.data_extract]
  apply Array.ext'
  simp [str]
end G294

/- Texts of one length: equallyLong and l3Texts; the mathematics of JoinShards. -/
namespace G294
open Go Go.RowKit
/-- texts of one length, at most 40 -/
def textsOk (L : List (List UInt8)) : Bool := L.all fun s => decide (s.length = (L.getD 0 []).length ∧ s.length ≤ 40)
theorem textsOk_iff (L : List (List UInt8)) : textsOk L = true ↔ ∀ i (h : i < L.length), L[i].length = (L.getD 0 []).length ∧ L[i].length ≤ 40 := by
  unfold textsOk
  rw [List.all_eq_true]
  constructor
  · intro h i hi
    simpa using h L[i] (List.getElem_mem hi)
  · intro h s hs
    obtain ⟨i, hi, rfl⟩ := List.getElem_of_mem hs
    simpa using h i hi
theorem textsOk_false {L : List (List UInt8)} {i : Nat} (hi : i < L.length) (h : ¬ (L[i].length = (L.getD 0 []).length ∧ L[i].length ≤ 40)) : textsOk L = false := by
  rw [Bool.eq_false_iff]
  intro ht
  exact h ((textsOk_iff L).1 ht i hi)
theorem flatten_const : ∀ (L : List (List UInt8)) (n : Nat), (∀ s ∈ L, s.length = n) → L.flatten.length = L.length * n
  | [], n, _ => by simp
  | a :: L, n, h => by
    have h1 := h a (by simp)
    have ih := flatten_const L n (fun s hs => h s (by simp [hs]))
    simp only [List.flatten_cons, List.length_append, List.length_cons, ih, h1]
    rw [Nat.add_mul]; omega
theorem textsOk_flatten {L : List (List UInt8)} (h : textsOk L = true) : L.flatten.length = L.length * (L.getD 0 []).length := by
  apply flatten_const
  intro s hs
  obtain ⟨i, hi, rfl⟩ := List.getElem_of_mem hs
  exact ((textsOk_iff L).1 h i hi).1
theorem textsOk_first {L : List (List UInt8)} (h : textsOk L = true) : (L.getD 0 []).length ≤ 40 := by
  cases L with
  | nil => simp
  | cons a L => have := ((textsOk_iff _).1 h 0 (by simp)).2; simpa using this
theorem flatten_take_succ (L : List (List UInt8)) (k : Nat) (hk : k < L.length) : (L.take (k + 1)).flatten = (L.take k).flatten ++ L[k] := by
  rw [List.take_succ_eq_append_getElem hk, List.flatten_append]; simp
theorem flatten_take_le (L : List (List UInt8)) (k : Nat) : (L.take k).flatten.length ≤ L.flatten.length := by
  have h : L.flatten = (L.take k).flatten ++ (L.drop k).flatten := by rw [← List.flatten_append, List.take_append_drop]
  rw [h]; simp
def joinOk (L : List (List UInt8)) (z : Int) : Bool := (dataOk L.length && textsOk L) && decide (0 ≤ z ∧ z ≤ L.flatten.length)
def joinR (L : List (List UInt8)) (z : Int) : List UInt8 := if joinOk L z then L.flatten.take z.toNat else []
end G294
