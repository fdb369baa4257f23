/- Joined texts: VitV, Boxes, PathWalks, Frame, OpenArgs, OpenStrs, Msr. -/
import Derived.Test.YtjgmegfbfjmnfaaBd07
import Derived.Test.YtjgmegfbfjmnfaaBd03
import Derived.Test.YtjgmegfbfjmnfaaBd00
import Derived.Test.YtjgmegfbfjmnfaaBd06
import Derived.Test.YtjgmegfbfjmnfaaBd02
import Derived.Deep.RegionLaw
import Derived.WalkKit
import Derived.ProofKit
import Derived.LaidMore
import Derived.OpenShut
import Derived.Stop.Joined
import Derived.WalkSmall
import Derived.Lib.LaidTab
import Derived.MakeChecks
import Derived.Test.YtjgmegfbfjmnfaaProg
import Derived.SliceStrings
import Derived.ChangeMaps5
import Derived.Deep.QuietTactic
import Derived.BigQuiet
set_option linter.unusedSimpArgs false
set_option linter.unusedVariables false
/- Chapter 10: received bits, BestPaths, DecodeBits: the program's. -/
namespace G294
open Go Go.RowKit
def recR (r : List UInt8) : List UInt8 := if recOk r = true then raw r else []
theorem recR_yes {r : List UInt8} (h : recOk r = true) : recR r = raw r := if_pos h
theorem recR_no {r : List UInt8} (h : recOk r = false) : recR r = [] := if_neg (by rw [h]; decide)
theorem Seen.front {w : World} {b off n c : Nat} {xs : List Value} (h : Seen w (.slice (some ⟨b, off, none⟩) n c) xs) (m : Nat) (hm : m ≤ xs.length) : Seen w (.slice (some ⟨b, off, none⟩) m c) (xs.take m) := by
  obtain ⟨A, c', e, h1, h2, h3⟩ := h
  simp only [Value.slice.injEq] at e
  obtain ⟨rfl, rfl, rfl⟩ := e
  have hl : (xs.take m).length = m := by simp; omega
  refine ⟨some ⟨b, off, none⟩, c, by rw [hl], by rw [hl]; omega, h2, fun h0 => ?_⟩
  obtain ⟨b', off', e2, hb, hc⟩ := h3 (by omega)
  refine ⟨b', off', e2, hb, fun j u hu => ?_⟩
  rw [List.getElem?_take] at hu
  split at hu
  · exact hc j u hu
  · cases hu
theorem pathsN_take (r : List UInt8) (m : Nat) : ∀ k, 3 * k ≤ m → pathsN (r.take m) k = pathsN r k
  | 0, _ => rfl
  | k + 1, h => by
    rw [pathsN, pathsN, pathsN_take r m k (by omega)]
    congr 1
    rw [List.drop_take, List.take_take, show min 3 (m - 3 * k) = 3 by omega]
end G294
namespace Go.Proofs.Ytjgmegfbfjmnfaa
open Go.RowKit G294

set_option maxHeartbeats 1000000 in
theorem receivedBits_own (r : List UInt8) (w : World) (hs : r.length ≤ 1000000000000) : Calls Try.prog 41 #[.string (str r)] w (RetBytesOk 5 w (recR r) (recOk r)) := by
  have HD := Lib.hid (recOk_iff r)
  have HP := Lib.hid (fun W => parsedBits_own r 96 W (by omega) hs)
  have HNO : Hid (recOk r = false → recR r = []) := recR_no
  have HYES : Hid (recOk r = true → recR r = raw r) := recR_yes
  by_cases h1 : bitsOk r 96 = true
  · have H1 := Lib.hid h1
    have HPR := Lib.hid (prsR_yes h1)
    have hl := raw_len r
    generalize hnn : r.length = n at *
    have hrm2 : (n : Int) % 3 = ((n % 3 : Nat) : Int) := by omega
    by_cases h3 : 6 ≤ n
    · have hd3 : decide ((n : Int) < 6) = false := by simp; omega
      by_cases h2 : n % 3 = 0
      · have hd2' : ((n : Int) % 3 != 0) = false := by rw [hrm2, h2]; rfl
        have HO : Hid (recOk r = true) := by show _ = _; rw [HD.out, H1.out]; simp [h2, h3]
        have HR := Lib.hid (HYES.out HO.out)
        clear h1 hrm2 h2 hnn
        go_enter Try.func41, Try.ntmps41
        go_wp2_with fail
        refine (HP.out _).mono ?_
        rintro e w1 ⟨v1, rfl, o1, k1⟩
        rw [H1.out]
        rw [HPR.out] at o1
        obtain ⟨A1, c1, hv1⟩ := own_slice o1.1
        rw [hl] at hv1
        subst hv1
        have HO1 := Lib.hid o1
        clear o1
        go_wp2_with fail
        go_ret2
        exact ⟨_, by rw [HO.out]; rfl, by rw [HR.out]; exact HO1.out, k1⟩
      · have hd2' : ((n : Int) % 3 != 0) = true := by rw [hrm2, bne_iff_ne]; omega
        have HO : Hid (recOk r = false) := by show _ = _; rw [HD.out, H1.out]; simp [h2]
        have HR := Lib.hid (HNO.out HO.out)
        clear h1 hrm2 h2 hnn
        go_enter Try.func41, Try.ntmps41
        go_wp2_with fail
        refine (HP.out _).mono ?_
        rintro e w1 ⟨v1, rfl, o1, k1⟩
        rw [H1.out]
        rw [HPR.out] at o1
        obtain ⟨A1, c1, hv1⟩ := own_slice o1.1
        rw [hl] at hv1
        subst hv1
        clear o1
        go_wp2_with fail
        go_ret2
        exact ⟨_, by rw [HO.out]; rfl, by rw [HR.out]; exact OwnBytes.nil _ _ _, k1⟩
    · have hd3 : decide ((n : Int) < 6) = true := by simp; omega
      have HO : Hid (recOk r = false) := by show _ = _; rw [HD.out, H1.out]; simp [h3]
      have HR := Lib.hid (HNO.out HO.out)
      clear h1 hrm2 hnn
      go_enter Try.func41, Try.ntmps41
      go_wp2_with fail
      refine (HP.out _).mono ?_
      rintro e w1 ⟨v1, rfl, o1, k1⟩
      rw [H1.out]
      rw [HPR.out] at o1
      obtain ⟨A1, c1, hv1⟩ := own_slice o1.1
      rw [hl] at hv1
      subst hv1
      clear o1
      go_wp2_with fail
      go_ret2
      exact ⟨_, by rw [HO.out]; rfl, by rw [HR.out]; exact OwnBytes.nil _ _ _, k1⟩
  · have H1 : Hid (bitsOk r 96 = false) := by show bitsOk r 96 = false; simpa using h1
    have HO : Hid (recOk r = false) := by show _ = _; rw [HD.out, H1.out]; rfl
    have HR := Lib.hid (HNO.out HO.out)
    clear h1
    go_enter Try.func41, Try.ntmps41
    go_wp2_with fail
    refine (HP.out _).mono ?_
    rintro e w1 ⟨v1, rfl, o1, k1⟩
    rw [H1.out]
    go_wp2_with fail
    go_ret2
    exact ⟨_, by rw [HO.out]; rfl, by rw [HR.out]; exact OwnBytes.nil _ _ _, k1⟩

set_option maxRecDepth 100000 in
set_option maxHeartbeats 1000000 in
theorem bestPaths_own (r : List UInt8) (w : World) (hs : r.length ≤ 1000000000000) : Calls Try.prog 16 #[.string (str r)] w (RetPtsOk 25 w (bstR r) (recOk r)) := by
  have HRB := Lib.hid (fun W => receivedBits_own r W hs)
  by_cases h : recOk r = true
  · have H := Lib.hid h
    obtain ⟨_, n, hn, h30, _⟩ := recOk_b h
    have HR : Hid (bstR r = pathsN (r.take (3 * n)) n) := by show _ = _; rw [bstR_yes h hn, pathsN_take r (3 * n) n (Nat.le_refl _)]
    have HRR := Lib.hid (recR_yes h)
    have hl : (raw r).length = 3 * n + 6 := by rw [raw_len, hn]; omega
    have HPT := Lib.hid (fun W v (hv : Seen W v (bys (raw (r.take (3 * n))))) => pathsThrough_own v (r.take (3 * n)) n W hv (by simp; omega) (by omega))
    obtain ⟨N, hN⟩ : ∃ N, N = 3 * n + 6 := ⟨_, rfl⟩
    have hN3 : 3 * n = N - 6 := by omega
    rw [← hN] at hl
    have hN6 : 6 ≤ N := by omega
    have hN96 : N ≤ 96 := by omega
    have HN3 := Lib.hid hN3
    clear h hn hN hN3 hs
    go_enter Try.func16, Try.ntmps16
    go_wp2_with fail
    refine (HRB.out _).mono ?_
    rintro e w1 ⟨v1, rfl, o1, k1⟩
    rw [H.out]
    rw [HRR.out] at o1
    obtain ⟨g, cap, hv1, hg1, hg2, hgc, hgm⟩ := o1.slice (by rw [hl]; omega)
    rw [hl] at hv1 hgc
    subst hv1
    have HSE : Hid (Seen w1 (.slice (some ⟨g, 0, none⟩) (N - 6) cap) (bys (raw (r.take (3 * n))))) := by
      have h1 := o1.seen.front (N - 6) (by rw [bys_length, hl]; omega)
      rw [raw_take, HN3.out]
      have e : (bys (raw r)).take (N - 6) = bys ((raw r).take (N - 6)) := by simp [bys, List.map_take]
      rw [← e]; exact h1
    have hsl : ∀ W, (Instr.slice 22 (.slice (some ⟨g, 0, none⟩) N cap) none (some (.int .i64 ((N : Int) - 6))) none).run Try.prog W = .ok (.slice (some ⟨g, 0, none⟩) (N - 6) cap) W := fun W => by
      have := vSliceHb g 0 N cap (N - 6) (by omega) (by omega) W
      rw [show ((N - 6 : Nat) : Int) = (N : Int) - 6 by omega] at this
      exact this
    unfold maxLen at hgm
    have HPV := Lib.hid (HPT.out w1 _ HSE.out)
    have hm0 : (0 : Int) ≤ (N : Int) - 6 := by omega
    clear o1
    go_wp2_with fail
    refine HPV.out.mono ?_
    rintro e w2 ⟨v2, rfl, o2, k2⟩
    have s1 := k1.size
    have HO2 : Hid (OwnP 25 w2 w.heap.size w2.heap.size v2 (pathsN (r.take (3 * n)) n)) := ⟨own_base o2.1 s1, Nat.le_refl _, o2.2.2⟩
    clear o2
    go_wp2_with fail
    go_ret2
    exact ⟨_, by rw [H.out]; rfl, by rw [HR.out]; exact HO2.out, turn_trans k1 k2 (by omega)⟩
  · have H : Hid (recOk r = false) := by show recOk r = false; simpa using h
    have HR := Lib.hid (bstR_no H.out)
    clear h
    go_enter Try.func16, Try.ntmps16
    go_wp2_with fail
    refine (HRB.out _).mono ?_
    rintro e w1 ⟨v1, rfl, o1, k1⟩
    rw [H.out]
    go_wp2_with fail
    go_ret2
    exact ⟨_, by rw [H.out]; rfl, by rw [HR.out]; exact OwnP.nil _ _ _, k1⟩

set_option maxRecDepth 100000 in
set_option maxHeartbeats 2000000 in
theorem decodeBits_own (r : List UInt8) (w : World) (hs : r.length ≤ 1000000000000) : Calls Try.prog 14 #[.string (str r)] w (RetPtOk w (dcdR r) (recOk r)) := by
  have a1 := turn_alloc w (.cells #[.string ⟨#[]⟩, .int .i64 0] 25)
  have X0 := boxV2_new w (.string ⟨#[]⟩) (.int .i64 0) 25
  have HRB := Lib.hid (fun W => receivedBits_own r W hs)
  by_cases h : recOk r = true
  · have H := Lib.hid h
    obtain ⟨_, n, hn, h30, _⟩ := recOk_b h
    have HR := Lib.hid (dcdR_yes h hn)
    have HRR := Lib.hid (recR_yes h)
    have HPT := Lib.hid (fun W v (hv : Seen W v (bys (raw r))) => pathsThrough_own v r (n + 2) W hv hn (by omega))
    have HLEN := Lib.hid (path0_len hn)
    have HDL : Hid ((pathsN r (n + 2)).length = 4) := pathsN_len r (n + 2)
    rw [HR.out]
    generalize hpp : (pathsN r (n + 2)).getD 0 noP = pp at *
    obtain ⟨ps, py⟩ := pp
    have HPP := Lib.hid hpp
    have HPS : Hid (∀ m, (str ps).extract 0 m = str (ps.take m)) := fun m => by
      have := extract_str ps 0 m
      simpa using this
    have hps : (str ps).size = n + 2 := by rw [str_size]; exact HLEN.out
    simp only
    clear h hn HR HLEN hpp hs
    go_enter Try.func14, Try.ntmps14
    go_wp2_with fail
    generalize (w.alloc (.cells #[.string ⟨#[]⟩, .int .i64 0] 25)) = w1 at *
    have HX0 := Lib.hid X0
    have HK1 := Lib.hid a1
    clear X0 a1
    refine (HRB.out _).mono ?_
    rintro e w2 ⟨v2, rfl, o2, k2⟩
    rw [H.out]
    rw [HRR.out] at o2
    have s1 := HX0.out.lt
    have s2 := k2.size
    have HPV := Lib.hid (HPT.out w2 _ o2.seen)
    clear o2
    go_wp2_with fail
    refine HPV.out.mono ?_
    rintro e w3 ⟨v3, rfl, o3, k3⟩
    have s3 := k3.size
    have HK := Lib.hid (turn_trans k2 k3 (by omega))
    obtain ⟨g, cap, cur, hv, hbg, hg⟩ : ∃ g cap cur, v3 = .slice (some ⟨g, 0, none⟩) 4 cap ∧ w2.heap.size ≤ g ∧ w3.heap[g]? = some cur := by
      rcases o3.1.2 with ⟨_, hn0⟩ | ⟨g, cap, cur, hh, hb, hg, _⟩
      · rw [HDL.out] at hn0; omega
      · exact ⟨g, cap, _, by rw [hh, HDL.out], hb, hg⟩
    subst hv
    have o0 : w3.cell? ⟨g, 0, none⟩ = some (.string (str ps)) := by
      have := o3.1.cellAt (0 * 2) (by omega)
      rw [pts_bits _ 0 (by rw [HDL.out]; omega), ← getD_len _ noP, HPP.out] at this
      exact this
    have o1 : w3.cell? ⟨g, 1, none⟩ = some (.int .i64 py) := by
      have := o3.1.cellAt (0 * 2 + 1) (by omega)
      rw [pts_cost _ 0 (by rw [HDL.out]; omega), ← getD_len _ noP, HPP.out] at this
      exact this
    have hgl : g < w3.heap.size := (Array.getElem?_eq_some_iff.1 hg).1
    have X1 := HX0.out.keep HK.out (by omega)
    have q0 := X1.c0
    have q1 := X1.c1
    have f0 := X1.f0
    have f1 := X1.f1
    obtain ⟨z, hz⟩ : ∃ z, z = n + 2 := ⟨_, rfl⟩
    rw [← hz] at hps
    have hz2 : 2 ≤ z := by omega
    have hz3 : z ≤ 32 := by omega
    have htn : ((z : Int) - 2).toNat = n := by omega
    have hex := HPS.out n
    generalize hTT : ps.take n = tt at *
    have hwl : w.heap.size < w3.heap.size := by omega
    have hne : w.heap.size ≠ w3.heap.size := by omega
    have X2 := X1.keep (turn_alloc w3 (.cells #[.string (str tt), .int .i64 py] 25)) (by omega)
    have X3 := X2.set (.string (str tt)) (.int .i64 py)
    have r0 := X3.c0
    have r1 := X3.c1
    have HB6 := Lib.hid (HK.out.base HK1.out.to_below (by omega) (by omega))
    have HB7 := Lib.hid (((HB6.out.setCell (p := ⟨w.heap.size, 0, none⟩) (Nat.le_refl _) (.string (str tt))).setCell (p := ⟨w.heap.size, 1, none⟩) (Nat.le_refl _) (.int .i64 py)).alloc (by simp; omega) (.cells #[.string (str tt), .int .i64 py] 25))
    clear hz hg X1 X2 X3 hTT o3 k2 k3
    go_wp2_with fail
    refine bodyPost_ret (v := .tuple #[.agg #[.string (str tt), .int .i64 py], .bool true]) (by simp [results, Try.results14, go_sem, r0, r1, q0, q1, f0, f1, hne, hwl]) rfl ?_
    exact ⟨by rw [H.out], TurnIn.of_below HB7.out⟩
  · have H : Hid (recOk r = false) := by show recOk r = false; simpa using h
    have HR := Lib.hid (dcdR_no H.out)
    rw [HR.out]
    clear h hs
    go_enter Try.func14, Try.ntmps14
    go_wp2_with fail
    generalize (w.alloc (.cells #[.string ⟨#[]⟩, .int .i64 0] 25)) = w1 at *
    refine (HRB.out _).mono ?_
    rintro e w2 ⟨v2, rfl, o2, k2⟩
    rw [H.out]
    have X1 := X0.keep k2 (by omega)
    have q0 := X1.c0
    have q1 := X1.c1
    have f0 := X1.f0
    have f1 := X1.f1
    have HB2 := Lib.hid ((turn_trans a1 k2 (by omega)).to_below)
    clear X0 X1 a1 k2 o2
    go_wp2_with fail
    refine bodyPost_ret (v := .tuple #[.agg #[.string (str []), .int .i64 0], .bool false]) (by simp [results, Try.results14, go_sem, q0, q1, f0, f1]; rfl) rfl ?_
    refine ⟨by rw [H.out], TurnIn.of_below ?_⟩
    exact ((HB2.out).setCell (p := ⟨w.heap.size, 0, none⟩) (Nat.le_refl _) _).setCell (p := ⟨w.heap.size, 1, none⟩) (Nat.le_refl _) _

end Go.Proofs.Ytjgmegfbfjmnfaa

/- Struct variables of a law: blocks of one cell, kept; sizes of results. -/
namespace G294
open Go Go.RowKit
theorem box_keep {w w' : World} {B a b : Nat} {x : Value} (h : w.cell? ⟨B, 0, none⟩ = some x) (hl : B < w.heap.size) (t : TurnIn a b w w') (d : B < a ∨ b ≤ B) : w'.cell? ⟨B, 0, none⟩ = some x :=
  (World.cell?_of_block (t.block B hl d)).trans h
theorem alloc_cell (w : World) (v : Value) (T : TypeId) : (w.alloc (.cells #[v] T)).cell? ⟨w.heap.size, 0, none⟩ = some v := by simp
theorem alloc_lt (w : World) (o : Obj) : w.heap.size < (w.alloc o).heap.size := by rw [World.size_alloc]; omega
theorem undrew {w w' : World} {a b : Nat} (t : TurnIn a b w.drew w') : TurnIn a b w w' := ⟨t.os, t.tape, t.output, t.size, t.block⟩
theorem transR_siz (m : Mat) : sizM (transR m) ≤ 256 := by
  unfold transR; split
  · rename_i h; have := (goodM_iff m).1 h; exact Nat.le_trans (Nat.le_trans (sizM_le_mul _ m.length (fun i hi => by rw [mkM_getD _ _ _ _ (by simpa using hi)]; simp)) (by rw [mkM_length]; exact Nat.mul_le_mul (show wid m ≤ 16 by omega) (show m.length ≤ 16 by omega))) (by omega)
  · simp [sizM]
theorem sizM_mkM (r c : Nat) (F : Ents) : sizM (mkM r c F) ≤ r * c := by
  have := sizM_le_mul (mkM r c F) c (fun i hi => by rw [mkM_getD _ _ _ _ (by simpa using hi)]; simp)
  simpa using this
theorem sizM_side {r c : Nat} (F : Ents) (hr : r ≤ 16) (hc : c ≤ 16) : sizM (mkM r c F) ≤ 256 := Nat.le_trans (sizM_mkM r c F) (Nat.mul_le_mul hr hc)
theorem idR_siz (n : Int) : sizM (idR n) ≤ 256 := by
  unfold idR; split
  · rename_i h; simp [goodI] at h; exact sizM_side _ (by omega) (by omega)
  · simp [sizM]
theorem sides_b {r c : Int} (h : sidesOk r c = true) : r.toNat ≤ 16 ∧ c.toNat ≤ 16 := by
  simp [sidesOk, goodI] at h; omega
theorem vandR_siz (r c : Int) : sizM (vandR r c) ≤ 256 := by
  unfold vandR; split
  · rename_i h; exact sizM_side _ (sides_b h).1 (sides_b h).2
  · simp [sizM]
theorem cauR_siz (r c : Int) : sizM (cauR r c) ≤ 256 := by
  unfold cauR; split
  · rename_i h; exact sizM_side _ (sides_b h).1 (sides_b h).2
  · simp [sizM]
theorem LieM.isSlice {w : World} {lo hi : Nat} {v : Value} {L : Mat} (h : LieM w lo hi v L) : ∃ A n c, v = .slice A n c := by
  obtain ⟨A, c, e, _⟩ := h.seen.len
  exact ⟨A, _, c, e⟩
end G294

/- Contracts of the laws' helpers on Path and []Path: equality, marks. -/
namespace Go.Proofs.Ytjgmegfbfjmnfaa
open Go.RowKit G294

theorem infoPath : (Try.prog.info? 25).map (fun i => (i.zero, i.size, i.bytes)) = some (some (.agg #[.string ⟨#[]⟩, .int .i64 0]), 2, 24) := by kernel_rfl

set_option maxRecDepth 100000 in
set_option maxHeartbeats 1000000 in
theorem eqPath_same (s : List UInt8) (n : Int) (w : World) : Calls Try.prog 29 #[.agg #[.string (str s), .int .i64 n], .agg #[.string (str s), .int .i64 n]] w (RetBool w true) := by
  have hb0 : Below w.heap.size w (w.alloc (.cells #[.string (str s), .int .i64 n] 25)) := (Below.refl _ _).alloc (Nat.le_refl _) _
  have hb1 : Below w.heap.size w ((w.alloc (.cells #[.string (str s), .int .i64 n] 25)).alloc (.cells #[.string (str s), .int .i64 n] 25)) := hb0.alloc (by simp) _
  have hbb := str_same s
  have hnn : ((n : Int) != (n : Int)) = false := by simp
  clear hb0
  go_enter Try.func29, Try.ntmps29
  go_wp2_with fail
  go_ret
  exact ⟨rfl, TurnIn.of_below hb1⟩

set_option maxRecDepth 100000 in
set_option maxHeartbeats 1000000 in
theorem eqPathS_same (v u : Value) (l : List Pt) (w : World) (hv : SeenP w v l) (hu : SeenP w u l) :
    Calls Try.prog 30 #[v, u] w (RetBool w true) := by
  obtain ⟨A, c, rfl, hlc, hcm, hx⟩ := hv
  obtain ⟨A', c', rfl, hlc', hcm', hx'⟩ := hu
  unfold maxLen at hcm hcm'
  generalize hnn : l.length = n at *
  have HN := Lib.hid hnn
  clear hnn
  have hbn : ((n : Int) != (n : Int)) = false := by simp
  go_enter Try.func30, Try.ntmps30
  go_wp2_with fail
  go_loopw [5] (fun i wr => ∃ k : Nat, k ≤ n ∧ i = .int .i64 k ∧ Below w.heap.size w wr)
    (fun i _ => n - (intOf i).toNat)
  case atStart => exact ⟨0, Nat.zero_le _, rfl, Below.refl _ _⟩
  case round =>
    obtain ⟨k, hk, rfl, hb⟩ := hrel
    by_cases hlt : k < n
    · obtain ⟨b, off, rfl, hbl, hcell⟩ := hx (by omega)
      obtain ⟨b', off', rfl, hbl', hcell'⟩ := hx' (by omega)
      obtain ⟨⟨s, no⟩, hks⟩ := at_lt HN.out hlt
      have hc1 := (hb.cell (p := ⟨b, off + k * 2, none⟩) hbl).trans (hcell k _ hks).1
      have hc2 := (hb.cell (p := ⟨b, off + k * 2 + 1, none⟩) hbl).trans (hcell k _ hks).2
      have hd1 := (hb.cell (p := ⟨b', off' + k * 2, none⟩) hbl').trans (hcell' k _ hks).1
      have hd2 := (hb.cell (p := ⟨b', off' + k * 2 + 1, none⟩) hbl').trans (hcell' k _ hks).2
      simp only at hc1 hc2 hd1 hd2
      clear hcell hcell' hx hx'
      have hbs := hb.size
      have hki : (k : Int) < (n : Int) := by omega
      go_wp2_with fail
      go_region_held3 (fun w' => (w'.cell? ⟨b, off + k * 2, none⟩ = some (.string (str s)) ∧ w'.cell? ⟨b, off + k * 2 + 1, none⟩ = some (.int .i64 no)) ∧ w'.cell? ⟨b', off' + k * 2, none⟩ = some (.string (str s)) ∧ w'.cell? ⟨b', off' + k * 2 + 1, none⟩ = some (.int .i64 no))
        (first | exact ⟨⟨hc1, hc2⟩, hd1, hd2⟩ | exact ⟨⟨cell_turn ht hc1 (by simp; omega), cell_turn ht hc2 (by simp; omega)⟩, cell_turn ht hd1 (by simp; omega), cell_turn ht hd2 (by simp; omega)⟩)
        ((go_at_call 29; refine (eqPath_same s no _).mono ?_; rintro e w' ⟨rfl, ht⟩))
      all_goals
        have hb2 : Below w.heap.size w w' := ht.base (below_drewN hb 1) (by simp; omega) (by omega)
        go_wp2_with fail
        go_roundw
        case rel => exact ⟨k + 1, by omega, by go_num, hb2⟩
        case measure => simp [intOf]; omega
    · obtain rfl : k = n := by omega
      go_wp2_with fail
      go_ret
      exact ⟨rfl, TurnIn.of_below hb⟩

set_option maxRecDepth 100000 in
set_option maxHeartbeats 2000000 in
theorem markPathS_own (v : Value) (l : List Pt) (k0 lo hi : Nat) (w : World) (hv : OwnP 25 w lo hi v l) (h1 : 0 < k0) (hk0 : k0 + l.length * 2 ≤ 1000000000000) :
    Calls Try.prog 31 #[v, .int .i64 k0] w (RetMarkQ 25 w lo hi v k0 l.length) := by
  have hown0 := hv
  rcases hv.1.2 with ⟨rfl, hn⟩ | ⟨g, cap, cur, rfl, hbg, hg, hnc, hcm, hcs, ht⟩
  · have : l = [] := List.eq_nil_of_length_eq_zero hn
    subst this
    have HE := Lib.hid hown0
    clear hown0 hv hn
    go_enter Try.func31, Try.ntmps31
    go_wp2_with fail
    refine wp_loop_once ?_
    go_wp2_with fail
    go_ret
    exact ⟨rfl, HE.out, ⟨rfl, rfl, rfl, Nat.le_refl _, fun _ _ _ => rfl⟩⟩
  · have hgh : g < hi := hv.2.2 g rfl
    have htop : hi ≤ w.heap.size := hv.2.1
    replace hown0 := hv.1
    clear hv hg ht hcs
    unfold maxLen at hcm
    generalize hnn : l.length = n at *
    have HN := Lib.hid hnn
    clear hnn
    go_enter Try.func31, Try.ntmps31
    go_wp2_with fail
    go_loopw [1, 5] (fun q i wr => ∃ k : Nat, k ≤ n ∧ i = .int .i64 k ∧ q = .int .i64 ((k0 + k * 2 : Nat) : Int) ∧ wr.ownsRow lo 25 2 (.slice (some ⟨g, 0, none⟩) n cap) n (pts ((marksQ k0 n).take k ++ l.drop k)) ∧ TurnIn lo hi w wr)
      (fun _ i _ => n - (intOf i).toNat)
    case atStart => exact ⟨0, Nat.zero_le _, rfl, by simp, by simpa using hown0, ⟨rfl, rfl, rfl, Nat.le_refl _, fun _ _ _ => rfl⟩⟩
    case round =>
      obtain ⟨k, hk, rfl, rfl, hown, hgr⟩ := hrel
      clear hown0
      by_cases hlt : k < n
      · have hki : (k : Int) < (n : Int) := by omega
        have hlen : ((marksQ k0 n).take k ++ l.drop k).length = n := by simp [HN.out]; omega
        obtain ⟨⟨s, no⟩, hks⟩ := at_lt hlen hlt
        obtain ⟨hkl, hke⟩ := List.getElem?_eq_some_iff.1 hks
        have HL : Hid ((((pts ((marksQ k0 n).take k ++ l.drop k)).set (k * 2) (.string (str (mtext (k0 + k * 2))))).set (k * 2 + 1) (.int .i64 ((k0 + k * 2 + 1 : Nat) : Int))) = pts ((marksQ k0 n).take (k + 1) ++ l.drop (k + 1))) := by
          show _ = _
          rw [pts_set _ k (mtext (k0 + k * 2), ((k0 + k * 2 + 1 : Nat) : Int)) hkl, take_set_over _ _ k _ (by rw [List.getElem?_eq_getElem (by simpa using hlt), marksQ_get]) (by simp [HN.out])]
        have HD0 : Hid ((pts ((marksQ k0 n).take k ++ l.drop k))[k * 2]? = some (.string (str s))) := by
          show _ = _
          rw [pts_bits _ k hkl, hke]
        have HD : Hid ((pts ((marksQ k0 n).take k ++ l.drop k))[k * 2 + 1]? = some (.int .i64 no)) := by
          show _ = _
          rw [pts_cost _ k hkl, hke]
        have HC1 : Hid (((k0 + k * 2 : Nat) : Int) + 1 = ((k0 + k * 2 + 1 : Nat) : Int)) := (Int.natCast_add _ 1).symm
        generalize pts ((marksQ k0 n).take k ++ l.drop k) = XS at *
        obtain ⟨m, hm⟩ : ∃ m, m = k0 + k * 2 := ⟨_, rfl⟩
        rw [← hm] at HL HC1 ⊢
        have hm1 : m + 2 ≤ 1000000000000 := by omega
        have hm0 : 0 < m := by omega
        have HM := Lib.hid hm
        have HB2 := Lib.hid hgr
        clear hke hkl hks hlen hgr hm
        go_wp2_with fail
        refine (markText_ret m _ (by omega) (by omega)).mono ?_
        rintro e w' ⟨rfl, ht⟩
        have hown' := owns_turn0 hown ht
        have hsz := ht.size
        have hgs := HB2.out.size
        have hco2 : w'.cell? ⟨g, k * 2, none⟩ = some (.string (str s)) := by
          rw [hown'.cellAt (k * 2) (by omega)]; exact HD0.out
        have hfr2 := hown'.frozenAt (k * 2)
        have hst1 := hown'.stored (k * 2) (.string (str (mtext m)))
        have hco3 := (hst1.1).cellAt (k * 2 + 1) (by omega)
        rw [List.getElem?_set_ne (by omega), HD.out] at hco3
        have hfr3 := (hst1.1).frozenAt (k * 2 + 1)
        have hst3 := (hst1.1).stored (k * 2 + 1) (.int .i64 ((m + 1 : Nat) : Int))
        rw [HL.out] at hst3
        have hst4 : TurnIn lo hi w _ := turn_trans (turn_trans HB2.out ht (by omega)) (TurnIn.of_grown (lo := lo) (hi := hi) (hst1.2.trans hst3.2) (fun g' e => by simp [Value.ownBlock] at e; omega)) (by omega)
        have hst5 := hst3.1
        rw [← HC1.out] at hst4 hst5
        clear hst3 hown' hst1 hown
        go_wp2_with fail
        go_roundw
        case rel => exact ⟨k + 1, by omega, by go_num, by have := HM.out; go_num, hst5, hst4⟩
        case measure => simp [intOf]; omega
      · obtain rfl : k = n := by omega
        go_wp2_with fail
        go_ret
        refine ⟨rfl, ?_, hgr⟩
        rw [List.take_of_length_le (by simp), List.drop_of_length_le (by rw [HN.out]; exact Nat.le_refl _), List.append_nil] at hown
        exact ⟨by simpa using hown, Nat.le_trans htop hgr.size, fun g' e => by simp [Value.ownBlock] at e; omega⟩

set_option maxRecDepth 100000 in
set_option maxHeartbeats 2000000 in
theorem heldPathS_own (v : Value) (k0 n : Nat) (w : World) (hv : SeenP w v (marksQ k0 n)) (h1 : 0 < k0) (hk0 : k0 + n * 2 ≤ 1000000000000) :
    Calls Try.prog 32 #[v, .int .i64 k0] w (RetInt w ((k0 + n * 2 : Nat) : Int)) := by
  obtain ⟨A, c, rfl, hlc, hcm, hx⟩ := hv
  simp only [marksQ_length] at hlc hx ⊢
  unfold maxLen at hcm
  go_enter Try.func32, Try.ntmps32
  go_wp2_with fail
  go_loopw [1, 5] (fun q i wr => ∃ k : Nat, k ≤ n ∧ i = .int .i64 k ∧ q = .int .i64 ((k0 + k * 2 : Nat) : Int) ∧ Below w.heap.size w wr)
    (fun _ i _ => n - (intOf i).toNat)
  case atStart => exact ⟨0, Nat.zero_le _, rfl, by simp, Below.refl _ _⟩
  case round =>
    obtain ⟨k, hk, rfl, rfl, hb⟩ := hrel
    by_cases hlt : k < n
    · obtain ⟨b, off, rfl, hbl, hcell⟩ := hx (by omega)
      have hbs := hb.size
      have hkl : k < (marksQ k0 n).length := by simpa using hlt
      have hcc := hcell k _ (List.getElem?_eq_getElem hkl)
      rw [marksQ_get] at hcc
      have hc1 := (hb.cell (p := ⟨b, off + k * 2, none⟩) hbl).trans hcc.1
      have hc2 := (hb.cell (p := ⟨b, off + k * 2 + 1, none⟩) hbl).trans hcc.2
      simp only at hc1 hc2
      clear hcell hx hcc hkl
      have hki : (k : Int) < (n : Int) := by omega
      have HC1 : Hid (((k0 + k * 2 + 1 : Nat) : Int) = ((k0 + k * 2 : Nat) : Int) + 1) := Int.natCast_add _ 1
      have hbb := str_same (mtext (k0 + k * 2))
      have HC : ∀ W, Calls Try.prog 65 #[.int .i64 ((k0 + k * 2 : Nat) : Int)] W (RetStr W (mtext (k0 + k * 2))) := fun W => markText_ret (k0 + k * 2) W (by omega) (by omega)
      rw [HC1.out] at hc2
      generalize hm : k0 + k * 2 = m at *
      have hm1 : m + 2 ≤ 1000000000000 := by omega
      have HM := Lib.hid hm
      have hnn : (((m : Int) + 1) != ((m : Int) + 1)) = false := by simp
      have HCC := Lib.hid HC
      clear hm HC
      go_wp2_with fail
      go_region_law ((go_simp; go_at_call 65; refine (HCC.out _).mono ?_; rintro e w' ⟨rfl, ht⟩; have d1 := cell_turn ht (show wr.drew.cell? _ = _ from hc1) (show b < wr.heap.size by omega); have d2 := cell_turn ht (show wr.drew.cell? _ = _ from hc2) (show b < wr.heap.size by omega)))
      all_goals
        have hb2 : Below w.heap.size w w' := ht.base (below_drewN hb 1) (by simp; omega) (by omega)
        go_wp2_with fail
        go_roundw
        case rel => exact ⟨k + 1, by omega, by go_num, by have := HM.out; go_num, hb2⟩
        case measure => simp [intOf]; omega
    · obtain rfl : k = n := by omega
      go_wp2_with fail
      go_ret
      exact ⟨rfl, TurnIn.of_below hb⟩

end Go.Proofs.Ytjgmegfbfjmnfaa

/- A law's row out of its walk, for any program, any parameters and any listed variables: where the call returns true and leaves all old memory as it was, every argument and every listed variable reads as before. -/
namespace G294
open Go Go.ChangeShapes Go.WideShapes Go.ChangeAt Go.RowKit

section
variable {H : Type} {enc : TypeId × Value → H} {P : Program}

def readableAll (P : Program) (ts : List TypeId) : Bool := ts.all fun t => P.readableRec t && decide (t < P.types.size)

theorem trodAll_below (hl : laidOutB P = true) {W W' : World} (hb : Below W.heap.size W W') (sp : Nat → Bool) :
    ∀ {ts : List TypeId} {vs : List Value} {ds : List (DataW H)} {ps : List MemPlace}, readableAll P ts = true → DataW.TrodAll enc P W 0 (fun _ => true) true ts vs ds ps →
      (∀ x ∈ ps, x.block < W.heap.size) → (∀ x ∈ ps, sp x.block = true) → DataW.TrodAll enc P W' 0 sp true ts vs ds ps
  | [], _, _, _, _, h, _, _ => by
    obtain ⟨rfl, rfl, rfl⟩ := trodAll_nil h
    exact rfl
  | t :: ts, _, _, _, hr, h, hlt, hs => by
    obtain ⟨v, vs1, d, ds1, a, b, rfl, rfl, rfl, h1, h2⟩ := trodAll_cons h
    simp only [readableAll, List.all_cons, Bool.and_eq_true, decide_eq_true_eq] at hr
    exact ⟨a, b, WideElems.Trod_stays hl hr.1.1 hr.1.2 h1 (fun x hx => hb.same (hlt x (List.mem_append_left _ hx))) (fun x hx => hs x (List.mem_append_left _ hx)),
      trodAll_below hl hb sp hr.2 h2 (fun x hx => hlt x (List.mem_append_right _ hx)) (fun x hx => hs x (List.mem_append_right _ hx)), rfl⟩

def readableVars (P : Program) (ns : List String) : Bool := ns.all fun n => match P.globalNamed n with
  | some g => match (P.globals[g]?).map (·.type) with
    | some t => P.readableRec t && decide (t < P.types.size)
    | none => false
  | none => false

theorem trodVars_below (hl : laidOutB P = true) {W W' : World} (hb : Below W.heap.size W W') (sp : Nat → Bool) :
    ∀ {ns : List String} {ds : List (DataW H)} {ps : List MemPlace}, readableVars P ns = true → DataW.TrodVars enc P W (fun _ => true) ns ds ps →
      (∀ x ∈ ps, x.block < W.heap.size) → (∀ x ∈ ps, sp x.block = true) → DataW.TrodVars enc P W' sp ns ds ps
  | [], ds, ps, _, h, _, _ => by
    obtain ⟨rfl, rfl⟩ := trodVars_none h
    exact rfl
  | n :: ns, [], ps, hr, h, hlt, hs => h.elim
  | n :: ns, d :: ds, ps, hr, h, hlt, hs => by
    obtain ⟨g, t, cs, fuel, p, q, hg, ht, hv, hd, hrest, rfl⟩ := h
    simp only [readableVars, List.all_cons, Bool.and_eq_true, hg, ht, decide_eq_true_eq] at hr
    have hgl : g < W.heap.size := by
      unfold World.var? at hv
      simp only [hg, Option.bind_some] at hv
      rcases Nat.lt_or_ge g W.heap.size with h | h
      · exact h
      · rw [Array.getElem?_eq_none h] at hv; cases hv
    refine ⟨g, t, cs, fuel, p, q, hg, ht, var?_below hb hg hgl hv, ?_, trodVars_below hl hb sp hr.2 hrest (fun x hx => hlt x (List.mem_append_right _ hx)) (fun x hx => hs x (List.mem_append_right _ hx)), rfl⟩
    exact DataW.trod_stays (kids_book hl hr.1.1) (book_sized hr.1.1) (fun h => by cases h) ⟨hr.1.2, book_self t⟩ hd
      (fun x hx => hb.same (hlt x (List.mem_append_left _ (List.mem_append_right _ hx)))) (fun x hx => hs x (List.mem_append_left _ (List.mem_append_right _ hx)))

theorem trodAll_length {w : World} {base : Nat} {sp : Nat → Bool} {held : Bool} : ∀ {ts : List TypeId} {vs : List Value} {ds : List (DataW H)} {ps : List MemPlace},
    DataW.TrodAll enc P w base sp held ts vs ds ps → vs.length = ts.length ∧ ds.length = ts.length
  | [], _, _, _, h => by
    obtain ⟨rfl, rfl, rfl⟩ := trodAll_nil h
    exact ⟨rfl, rfl⟩
  | t :: ts, _, _, _, h => by
    obtain ⟨v, vs1, d, ds1, a, b, rfl, rfl, rfl, h1, h2⟩ := trodAll_cons h
    have := trodAll_length h2
    simp [this.1, this.2]
theorem trodVars_length {w : World} {sp : Nat → Bool} : ∀ {ns : List String} {ds : List (DataW H)} {ps : List MemPlace}, DataW.TrodVars enc P w sp ns ds ps → ds.length = ns.length
  | [], ds, ps, h => by
    obtain ⟨rfl, rfl⟩ := trodVars_none h
    rfl
  | n :: ns, [], ps, h => h.elim
  | n :: ns, d :: ds, ps, h => by
    obtain ⟨g, t, cs, fuel, p, q, hg, ht, hv, hd, hrest, rfl⟩ := h
    simp [trodVars_length hrest]

/-- the row's last step of a law: it returned true, and below the heap's old size nothing has turned -/
theorem post_law {f : Func} {s : ChangeSpec} {apart fresh handsOn again : Bool} {W W' : World} {args : Array Value} {ds gs : List (DataW H)} {before : List MemPlace} {tb : TypeId}
    (hl : laidOutB P = true) (hr : readableAll P f.params.toList = true) (hrv : readableVars P s.vars = true) (hres : f.resultTypes = #[tb]) (htb : P.underlying tb = some .bool)
    (hfn : ∀ ds gs : List (DataW H), ds.length = f.params.toList.length → gs.length = s.vars.length → s.fn H (ds ++ gs) = { results := [.lit (.bool true)], args := ds, vars := gs })
    (hW : DataW.Whole enc P f.params.toList s.vars apart W args.toList ds gs before) (hb : Below W.heap.size W W') :
    s.post enc P f apart fresh handsOn again W args (.bool true) W' := by
  have hW0 := hW
  have hlt : ∀ p ∈ before, p.block < W.heap.size := fun p hp => hW.lt p hp
  obtain ⟨pa, pv, hA, hV, rfl, hz, hn⟩ := hW
  have hf := hfn ds gs (trodAll_length hA).2 (trodVars_length hV)
  have hold : ∀ p ∈ pa ++ pv, (fun b => decide (b < W.heap.size)) p.block = true := fun p hp => by simpa using hlt p hp
  have hargs : ∀ sp : Nat → Bool, (∀ p ∈ pa ++ pv, sp p.block = true) → DataW.TrodAll enc P W' 0 sp true f.params.toList args.toList ds pa := fun sp hs =>
    trodAll_below hl hb sp hr hA (fun x hx => hlt x (List.mem_append_left _ hx)) (fun x hx => hs x (List.mem_append_left _ hx))
  have hvars : ∀ sp : Nat → Bool, (∀ p ∈ pa ++ pv, sp p.block = true) → DataW.TrodVars enc P W' sp s.vars gs pv := fun sp hs =>
    trodVars_below hl hb sp hrv hV (fun x hx => hlt x (List.mem_append_right _ hx)) (fun x hx => hs x (List.mem_append_right _ hx))
  have hrs : ∀ (b : Nat) (sp : Nat → Bool) (hd : Bool), DataW.TrodAll enc P W' b sp hd f.resultTypes.toList ((Value.bool true).resultList f.resultTypes.size) [.lit (.bool true)] [] := fun b sp hd => by
    rw [hres]
    exact trodAll_cons_mk (shut_bool htb true) trodAll_mk0
  refine ⟨ds, gs, pa ++ pv, [], pa, pv, hW0, by rw [hf]; exact hrs _ _ _, by rw [hf]; exact hargs _ hold, by rw [hf]; exact hvars _ hold, World.keptBut_mono (fun p hp => ⟨hp, ?_⟩) (hb.frame (· ∈ pa ++ pv)), fun _ => ?_⟩
  · exact Or.inr (List.mem_append.1 hp)
  · refine ⟨ok_one hres rfl (okWide_bool_mk htb true), _, _, ([] ++ pa) ++ pv, ⟨[] ++ pa, pv, trodAll_append (hargs _ (fun _ _ => rfl)) (hrs _ _ _), hvars _ (fun _ _ => rfl), rfl, ?_, ?_⟩, ?_⟩
    · intro b off hp
      have hin : MemPlace.cell b off ∈ pa ++ pv := by simpa using hp
      rw [hb.frozen (p := ⟨b, off, none⟩) (hlt _ hin)]
      exact hz b off hin
    · intro ha
      simpa using hn ha
    · intro p hp _
      simpa using hp
end

/-- the walk that a law's row asks: at every world and every reading of the arguments and the listed variables the call returns true and leaves old memory as it was -/
def LawWalk (P : Program) (f : FuncId) (fn : Func) (vars : List String) (apart : Bool) (X : World → Prop) : Prop :=
  ∀ (H : Type) (enc : TypeId × Value → H) (W : World) (base : Nat) (args : Array Value) (ds gs : List (DataW H)) (before : List MemPlace),
    (∀ (j : Nat) t v, fn.params[j]? = some t → args[j]? = some v → Value.okWide P W .any base t v) →
    DataW.Whole enc P fn.params.toList vars apart W args.toList ds gs before → X W →
    Calls P f args W fun e W' => e = .returned (.bool true) ∧ Below W.heap.size W W'


section
variable {P : Program} {W : World}
theorem laidVars_at : ∀ {l : List (String × DataW Unit)} {ps : List MemPlace}, DataW.LaidVars P W l ps → ∀ {i : Nat} {n : String} {d : DataW Unit}, l[i]? = some (n, d) →
    ∃ g t cs fuel p, P.globalNamed n = some g ∧ (P.globals[g]?).map (·.type) = some t ∧ W.var? P n = some cs ∧ DataW.trod (fun _ => ()) P W 0 (fun _ => true) false fuel t cs.toList = some (d, p)
  | [], _, _, i, n, d, hi => by simp at hi
  | (m, x) :: l, ps, h, i, n, d, hi => by
    obtain ⟨g, t, cs, fuel, p, q, h1, h2, h3, h4, h5, _⟩ := h
    cases i with
    | zero =>
      simp only [List.getElem?_cons_zero, Option.some.injEq, Prod.mk.injEq] at hi
      obtain ⟨rfl, rfl⟩ := hi
      exact ⟨g, t, cs, fuel, p, h1, h2, h3, h4⟩
    | succ i => exact laidVars_at h5 (by simpa using hi)

/-- a listed table of integers: its cells, and that it lies below the heap's end -/
theorem tab_of_laid {laid : List (String × DataW Unit)} (hpl : (laid.all fun x => x.2.handleName?.isNone) = true) (h : laidMetH P laid W) (i : Nat) {name : String} {k : IntKind} {zs : List Int} {g : Nat} {t e : TypeId} {n : Nat}
    (hi : laid[i]? = some (name, Lib.tabData k zs)) (hg : P.globalNamed name = some g) (hty : (P.globals[g]?).map (·.type) = some t) (ht : P.underlying t = some (.array n e)) (he : P.underlying e = some (.int k))
    (hce : P.cellsOf e = 1) (hct : P.cellsOf t = n) : (∀ j, j < zs.length → W.cell? ⟨g, j, none⟩ = some (.int k (zs.getD j 0))) ∧ g < W.heap.size := by
  rw [MakeChecks.laidMetH_plain _ _ _ hpl] at h
  obtain ⟨ps, hv, _⟩ := h
  obtain ⟨g', t', cs, fuel, p, hg', ht', hvar, hd⟩ := laidVars_at hv hi
  obtain rfl := Option.some.inj (hg.symm.trans hg')
  obtain rfl := Option.some.inj (hty.symm.trans ht')
  have hT : Lib.TabIs P W name k zs := by
    unfold Lib.TabIs
    rw [hvar, ← Lib.cells_of_tab ht he hce hct hd]
  refine ⟨fun j hj => hT.cell hg j hj, ?_⟩
  unfold World.var? at hvar
  simp only [hg, Option.bind_some] at hvar
  rcases Nat.lt_or_ge g W.heap.size with h | h
  · exact h
  · rw [Array.getElem?_eq_none h] at hvar; cases hvar
end

end G294

/- From the readings of a law's arguments to what its walk asks: bytes, ints, slices of bytes. -/
namespace G294
open Go Go.ChangeShapes Go.WideShapes Go.ChangeAt Go.RowKit

theorem byte_of_wf {x : Int} (h : (Lit.int .u8 x).wf = true) : ∃ n : UInt8, x = (n.toNat : Int) := by
  have hb := bounds_u8 h
  refine ⟨UInt8.ofNat x.toNat, ?_⟩
  rw [UInt8.toNat_ofNat']
  omega

theorem bytes_of_wf : ∀ {zs : List Int}, (∀ z ∈ zs, (Lit.int .u8 z).wf = true) → ∃ l : List UInt8, zs.map (fun z => Value.int .u8 z) = bys l ∧ l.length = zs.length
  | [], _ => ⟨[], rfl, rfl⟩
  | z :: zs, h => by
    obtain ⟨l, hl, hn⟩ := bytes_of_wf (zs := zs) (fun y hy => h y (List.mem_cons_of_mem _ hy))
    obtain ⟨x, rfl⟩ := byte_of_wf (h z (List.mem_cons_self))
    exact ⟨x :: l, by simp [bys] at hl ⊢; exact hl, by simp [hn]⟩

section
variable {H : Type} {enc : TypeId × Value → H} {P : Program} {W : World} {base : Nat} {t e : TypeId} {v : Value} {d : DataW H} {p : List MemPlace}
/-- a slice of bytes that came in -/
theorem seen_bytes (ht : P.underlying t = some (.slice e)) (he : P.underlying e = some (.int .u8)) (hc : P.cellsOf e = 1)
    (hv : Value.okWide P W .any base t v) (h : DataW.Trod enc P W 0 (fun _ => true) true t v d p) (hlt : ∀ x ∈ p, x.block < W.heap.size) : ∃ l : List UInt8, Seen W v (bys l) := by
  obtain ⟨a0, len, cap, rfl⟩ := okWide_slice ht hv
  obtain ⟨fuel, hf⟩ := h
  rcases open_ints ht he hc hf with ⟨hcs, hx⟩ | ⟨a, len', cap', zs, hcs, _, hl, hm, hz, hx, hcell, hwz⟩
  · have e1 : a0 = none ∧ len = 0 ∧ cap = 0 := by simpa [Value.cells] using hcs
    obtain ⟨rfl, rfl, rfl⟩ := e1
    exact ⟨[], Seen.nil W⟩
  · have e1 : a0 = some a ∧ len = len' ∧ cap = cap' := by simpa [Value.cells] using hcs
    obtain ⟨rfl, rfl, rfl⟩ := e1
    have hz' : zs.length = cap := by simpa using hz
    obtain ⟨l, hbl, hll⟩ := bytes_of_wf (zs := zs.take len) (fun y hy => hwz y (List.mem_of_mem_take hy))
    have hlen : l.length = len := by rw [hll, List.length_take]; omega
    refine ⟨l, some a, cap, by simp [hlen], by simp [hlen, hl], hm, fun hn => ?_⟩
    rw [bys_length, hlen] at hn
    obtain ⟨b, off, rfl, hc'⟩ := ints_at hcell (by omega)
    have hpl : MemPlace.cell b off ∈ p := by
      have : p = MemPlace.row ⟨b, off, none⟩ zs.length := by simpa using congrArg Prod.snd hx
      rw [this, MemPlace.row]
      exact List.mem_map.2 ⟨0, by simp; omega, rfl⟩
    refine ⟨b, off, rfl, hlt _ hpl, fun i u hu => ?_⟩
    rw [← hbl] at hu
    simp only [List.getElem?_map, List.getElem?_take] at hu
    split at hu
    · rename_i hi
      rw [hc' i (by omega)]
      rw [List.getElem?_eq_getElem (by omega)] at hu
      simp only [Option.map_some, Option.some.injEq] at hu
      rw [← hu]
      simp [List.getD, show i < zs.length by omega]
    · simp at hu
end
end G294

/- From the readings of a law's arguments to what its walk asks: strings and slices of strings. -/
namespace G294
open Go Go.ChangeShapes Go.WideShapes Go.ChangeAt Go.RowKit
section
variable {H : Type} {enc : TypeId × Value → H} {P : Program} {W : World} {base : Nat} {t e q : TypeId} {v : Value} {d : DataW H} {p : List MemPlace}
/-- a slice of strings that came in -/
theorem seen_strs (ht : P.underlying t = some (.slice e)) (he : P.underlying e = some .string) (hc : P.cellsOf e = 1)
    (hv : Value.okWide P W .any base t v) (h : DataW.Trod enc P W 0 (fun _ => true) true t v d p) (hlt : ∀ x ∈ p, x.block < W.heap.size) : ∃ l : List (List UInt8), Seen W v (strs l) ∧ ∀ s ∈ l, s.length ≤ maxLen := by
  obtain ⟨a0, len, cap, rfl⟩ := okWide_slice ht hv
  obtain ⟨fuel, hf⟩ := h
  rcases open_strings ht he hc hf with ⟨hcs, hx⟩ | ⟨a, len', cap', ss, hcs, _, hl, hm, hz, hx, hcell, hwz⟩
  · have e1 : a0 = none ∧ len = 0 ∧ cap = 0 := by simpa [Value.cells] using hcs
    obtain ⟨rfl, rfl, rfl⟩ := e1
    exact ⟨[], Seen.nil W, fun s hs => by simp at hs⟩
  · have e1 : a0 = some a ∧ len = len' ∧ cap = cap' := by simpa [Value.cells] using hcs
    obtain ⟨rfl, rfl, rfl⟩ := e1
    have hz' : ss.length = cap := by simpa using hz
    have hlen : (ss.take len).length = len := by rw [List.length_take]; omega
    have es : strs ((ss.take len).map fun s => s.data.toList) = (ss.take len).map Value.string := by
      simp only [strs, List.map_map]
      exact List.map_congr_left fun s _ => by simp only [Function.comp]; rw [← str_eq]
    refine ⟨(ss.take len).map fun s => s.data.toList, ⟨some a, cap, by simp [hlen, hl, hz'], by simp [hl, hz'], hm, fun hn => ?_⟩, fun s hs => ?_⟩
    rotate_left
    · obtain ⟨b, hb, rfl⟩ := List.mem_map.1 hs
      have := hwz b (List.mem_of_mem_take hb)
      rw [Array.length_toList]
      exact this
    rw [strs_length, List.length_map, hlen] at hn
    obtain ⟨b, off, spot⟩ := a
    have hspot : spot = none := by simpa [Addr.add] using World.cell?_spot (hcell 0 (by omega))
    subst hspot
    have hc' : ∀ i, i < ss.length → W.cell? ⟨b, off + i, none⟩ = some (.string (ss.getD i ByteArray.empty)) := fun i hi => by
      rw [← Go.WideShapes.add_plain]; exact hcell i hi
    refine ⟨b, off, rfl, World.block_lt_of_cell? W _ (hc' 0 (by omega)), fun i u hu => ?_⟩
    rw [es, List.getElem?_map] at hu
    have hi : i < len := by
      rcases Nat.lt_or_ge i len with h | h
      · exact h
      · rw [List.getElem?_eq_none (by omega)] at hu; simp at hu
    rw [List.getElem?_take, if_pos hi, List.getElem?_eq_getElem (by omega)] at hu
    simp only [Option.map_some, Option.some.injEq] at hu
    rw [hc' i (by omega), ← hu]
    simp [List.getD, show i < ss.length by omega]
theorem open_text (ht : P.underlying t = some .string) (hv : Value.okWide P W .any base t v) (h : DataW.Trod enc P W 0 (fun _ => true) true t v d p) : ∃ l : List UInt8, v = .string (str l) := by
  obtain ⟨s, rfl, _⟩ := Go.ChangeMaps.open_string ht hv h
  exact ⟨s.data.toList, by rw [← str_eq]⟩
end
end G294

/- Regenerating codes: which are valid, and their sizes, on both sides; the conversion of a code. -/
namespace G294
open Go Go.RowKit
/-- a code of n nodes, k of which suffice -/
abbrev msrV (n k : Int) : Value := .agg #[.int .i64 n, .int .i64 k]
def msrOk (n k : Int) : Bool := decide (2 ≤ k ∧ k ≤ 4) && decide (2 * k - 1 ≤ n ∧ n ≤ 14)
theorem msrOk_b {n k : Int} (h : msrOk n k = true) : (2 ≤ k ∧ k ≤ 4) ∧ 2 * k - 1 ≤ n ∧ n ≤ 14 := by simpa [msrOk] using h
theorem msrOk_k {n k : Int} (h : msrOk n k = true) : k = 2 ∨ k = 3 ∨ k = 4 := by have := msrOk_b h; omega
def msrA (n k : Int) : Int := if msrOk n k = true then k - 1 else 0
def msrD (n k : Int) : Int := if msrOk n k = true then 2 * (k - 1) else 0
def msrB (n k : Int) : Int := if msrOk n k = true then k * (k - 1) else 0
theorem msrA_yes {n k : Int} (h : msrOk n k = true) : msrA n k = k - 1 := if_pos h
theorem msrD_yes {n k : Int} (h : msrOk n k = true) : msrD n k = 2 * (k - 1) := if_pos h
theorem msrB_yes {n k : Int} (h : msrOk n k = true) : msrB n k = k * (k - 1) := if_pos h
theorem msrA_no {n k : Int} (h : msrOk n k = false) : msrA n k = 0 := if_neg (by rw [h]; simp)
theorem msrD_no {n k : Int} (h : msrOk n k = false) : msrD n k = 0 := if_neg (by rw [h]; simp)
theorem msrB_no {n k : Int} (h : msrOk n k = false) : msrB n k = 0 := if_neg (by rw [h]; simp)
theorem alloc_duo0 (w : World) (x y : Value) (T : TypeId) : (w.alloc (.cells #[x, y] T)).cell? ⟨w.heap.size, 0, none⟩ = some x := by simp
theorem alloc_duo1 (w : World) (x y : Value) (T : TypeId) : (w.alloc (.cells #[x, y] T)).cell? ⟨w.heap.size, 1, none⟩ = some y := by simp
def RetSizes (w : World) (a d b : Int) (ok : Bool) (e : Ending) (w' : World) : Prop := e = .returned (.tuple #[.int .i64 a, .int .i64 d, .int .i64 b, .bool ok]) ∧ TurnIn 0 0 w w'
end G294
namespace Go.Proofs.Ytjgmegfbfjmnfaa
open Go.RowKit G294

end Go.Proofs.Ytjgmegfbfjmnfaa
