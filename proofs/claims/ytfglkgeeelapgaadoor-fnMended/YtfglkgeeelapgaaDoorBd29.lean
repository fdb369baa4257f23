/- Joined texts: Mend4. -/
import Derived.Deep.RegionHeld3
import Derived.Deep.CutRange
import Derived.Test.YtfglkgeeelapgaaDoorBd27
import Derived.Test.YtfglkgeeelapgaaDoorBd23
import Derived.Test.YtfglkgeeelapgaaDoorBd08
import Derived.Test.YtfglkgeeelapgaaDoorBd15
import Derived.Test.YtfglkgeeelapgaaDoorBd14
import Derived.Test.YtfglkgeeelapgaaDoorBd28
import Derived.Test.YtfglkgeeelapgaaDoorBd06
set_option linter.unusedSimpArgs false
set_option linter.unusedVariables false
/- MendStripe, the model's. -/
namespace G294
open Go Go.RowKit
/-- a matrix in a box of one cell, and a verdict -/
def XBox (w0 : World) (M : Mat) (ok : Bool) (p q : Value) (W : World) : Prop := ∃ B x, p = .pointer (some ⟨B, 0, none⟩) ∧ q = .bool ok ∧ W.cell? ⟨B, 0, none⟩ = some x ∧ B < W.heap.size ∧ SeenM W x M ∧ TurnIn 0 0 w0 W
def BoxS (B : Nat) (a : Value) (W : World) : Prop := W.cell? ⟨B, 0, none⟩ = some a ∧ W.frozen? ⟨B, 0, none⟩ = false ∧ B < W.heap.size
theorem boxS_made {X W : World} {a : Value} {T : TypeId} (k : TurnIn 0 0 (X.alloc (.cells #[a] T)) W) : BoxS X.heap.size a W :=
  ⟨cell_turn k (alloc_cell _ _ _) (alloc_lt _ _), frozen_turn k (alloc_frz _ _ _ _) (alloc_lt _ _), Nat.lt_of_lt_of_le (alloc_lt _ _) k.size⟩
theorem boxS_kept {W W' : World} {B : Nat} {a : Value} (h : BoxS B a W) (k : TurnIn 0 0 W W') : BoxS B a W' :=
  ⟨cell_turn k h.1 h.2.2, frozen_turn k h.2.1 h.2.2, Nat.lt_of_lt_of_le h.2.2 k.size⟩
theorem xbox_new {w0 X : World} {M : Mat} {ok : Bool} {x : Value} {T : TypeId} (k : TurnIn 0 0 w0 X) (o : SeenM X x M) : XBox w0 M ok (.pointer (some ⟨X.heap.size, 0, none⟩)) (.bool ok) (X.alloc (.cells #[x] T)) :=
  ⟨_, x, rfl, rfl, alloc_cell _ _ _, alloc_lt _ _, o.touch (turn_alloc _ _), turn_trans k (turn_alloc _ _) (by omega)⟩
theorem xbox_set {E EE : TypeId} {w0 X : World} {M : Mat} {vs : List Value} {ok : Bool} {B lo hi : Nat} {x p : Value} (b : BoxS B p X) (hB : w0.heap.size ≤ B) (hl : B < lo) (k : TurnIn 0 0 w0 X) (o : OwnM E EE X lo hi x M vs) : XBox w0 M ok (.pointer (some ⟨B, 0, none⟩)) (.bool ok) (X.setCell ⟨B, 0, none⟩ x) := by
  obtain ⟨b0, b1, b2⟩ := b
  exact ⟨B, x, rfl, rfl, World.cell?_setCell_same _ _ _ b0, by simpa using b2, (o.keep (turn_setCell X B 0 x) (by omega)).seen, TurnIn.of_below (k.to_below.setCell (p := ⟨B, 0, none⟩) hB _)⟩
theorem seen_made (X : World) (n : Nat) (M : Array Value) (T : TypeId) (hM : M.toList = List.replicate n (.int .u8 0)) (hn : n ≤ 1000) : Seen (X.alloc (.cells M T)) (.slice (some ⟨X.heap.size, 0, none⟩) n n) (bys (zerosL n)) := by
  have hl : (bys (zerosL n)).length = n := by simp
  refine ⟨some ⟨X.heap.size, 0, none⟩, n, by rw [hl], by rw [hl]; exact Nat.le_refl _, by unfold maxLen; omega, fun _ => ⟨X.heap.size, 0, rfl, alloc_lt _ _, fun j y hj => ?_⟩⟩
  have h := Lib.cells_of_row (heap_alloc_new X (.cells M T)) n j y (by rw [hM, List.take_of_length_le (by simp), ← zeros_bys]; exact hj)
  rwa [Lib.addr_add] at h
def rangeI (r : Nat) : List Int := (List.range r).map fun i : Nat => (i : Int)
@[simp] theorem rangeI_length (r : Nat) : (rangeI r).length = r := by simp [rangeI]
theorem rangeI_get (r i : Nat) (h : i < r) : (rangeI r).getD i 0 = (i : Int) := by simp [rangeI, List.getD, h]
theorem part_li (l : List Int) : (mkM (rangeI l.length).length l.length fun i j => prmF ((rangeI l.length).getD i 0).toNat (l.getD j 0).toNat) = mkM l.length l.length (liF l) := by
  rw [li_mk, rangeI_length]
  exact mkM_congr fun i j hi hj => by rw [rangeI_get _ _ hi]; rfl
end G294
namespace Go.Proofs.YtfglkgeeelapgaaDoor
open Go.RowKit G294

set_option maxRecDepth 100000 in
set_option maxHeartbeats 8000000 in
theorem sMendStripe_own (s : Strp) (l : List Int) (v u x : Value) (w : World) (hv : Seen w v (strs s.1)) (hu : Seen w u (strs s.2)) (hx : Seen w x (ints l)) :
    Calls Tryd.prog 29 #[.agg #[v, u], x] w (RetTOk 9 w (mndR s l) (mndOk s l)) := by
  have HV0 := Lib.hid hv
  have HU0 := Lib.hid hu
  have HX0 := Lib.hid hx
  obtain ⟨A, c, hvv⟩ := hv.len
  obtain ⟨B, d, huu⟩ := hu.len
  obtain ⟨X, e, hxx⟩ := hx.len
  rw [strs_length] at hvv huu
  rw [ints_length] at hxx
  subst hvv huu hxx
  have a1 := turn_alloc w (.cells #[.slice A s.1.length c, .slice B s.2.length d] 25)
  have a2 := turn_alloc (w.alloc (.cells #[.slice A s.1.length c, .slice B s.2.length d] 25)) (.cells #[.slice none 0 0, .slice none 0 0] 25)
  have z2 : ((w.alloc (.cells #[.slice A s.1.length c, .slice B s.2.length d] 25)).alloc (.cells #[.slice none 0 0, .slice none 0 0] 25)).heap.size = w.heap.size + 2 := by simp
  have c0 := cell_turn a2 (alloc_duo0 w (.slice A s.1.length c) (.slice B s.2.length d) 25) (alloc_lt _ _)
  have c1 := cell_turn a2 (alloc_duo1 w (.slice A s.1.length c) (.slice B s.2.length d) 25) (alloc_lt _ _)
  have fx0 := frozen_turn a2 (alloc_frz w #[.slice A s.1.length c, .slice B s.2.length d] 25 0) (alloc_lt _ _)
  have fx1 := frozen_turn a2 (alloc_frz w #[.slice A s.1.length c, .slice B s.2.length d] 25 1) (alloc_lt _ _)
  have r0 := alloc_duo0 (w.alloc (.cells #[.slice A s.1.length c, .slice B s.2.length d] 25)) (.slice none 0 0) (.slice none 0 0) 25
  have r1 := alloc_duo1 (w.alloc (.cells #[.slice A s.1.length c, .slice B s.2.length d] 25)) (.slice none 0 0) (.slice none 0 0) 25
  have f0 := alloc_frz (w.alloc (.cells #[.slice A s.1.length c, .slice B s.2.length d] 25)) #[.slice none 0 0, .slice none 0 0] 25 0
  have f1 := alloc_frz (w.alloc (.cells #[.slice A s.1.length c, .slice B s.2.length d] 25)) #[.slice none 0 0, .slice none 0 0] 25 1
  rw [World.size_alloc] at r0 r1 f0 f1
  have k2 := turn_trans a1 a2 (by omega)
  have HG := Lib.hid (sGoodStripe_any _ _ s _ (hv.touch k2) (hu.touch k2))
  have HK2 := Lib.hid k2
  have HDEF : Hid (mndOk s l = ((strpOk s && (someOk l s.1.length && decide (l.length ≤ s.2.length))) && (decide (l.length = 0) || liOk l s.1.length))) := Lib.hid rfl
  have HNO : Hid (mndOk s l = false → mndR s l = ([], [])) := Lib.hid mndR_no
  have hsz2 : w.heap.size + 2 ≤ ((w.alloc (.cells #[.slice A s.1.length c, .slice B s.2.length d] 25)).alloc (.cells #[.slice none 0 0, .slice none 0 0] 25)).heap.size := by omega
  clear hv hu hx a1 a2 z2 k2
  by_cases h1 : strpOk s = true
  · have H1 := Lib.hid h1
    have b1 := strpOk_b h1
    rw [H1.out] at HG
    have HSO : Hid (∀ W, Seen W (.slice X l.length e) (ints l) → Calls Tryd.prog 79 #[.slice X l.length e, .int .i64 s.1.length] W fun e w' => e = .returned (.bool (someOk l s.1.length)) ∧ W = w') := Lib.hid (fun W h => l1Some_any _ l s.1.length W h (by omega) (by omega))
    by_cases h3 : someOk l s.1.length = true
    · have H3 := Lib.hid h3
      rw [H3.out] at HSO
      by_cases h2 : l.length ≤ s.2.length
      · have hgt : ¬ (s.2.length : Int) < (l.length : Int) := by omega
        have hgt2 : decide (s.2.length < l.length) = false := decide_eq_false (by omega)
        have hgt3 : decide ((s.2.length : Int) < (l.length : Int)) = false := decide_eq_false (by omega)
        have h40 := strp_len40 h1
        have HLEN : Hid (∀ k, ∀ t ∈ blankT s.1 l (firstLen s) k, t.length = firstLen s) := Lib.hid (fun k => putAll_lens (strpOk_len h1).1 (fun _ _ => zerosL_length _))
        have HL2 : Hid (∀ i, i < s.2.length → (s.2.getD i []).length = firstLen s) := Lib.hid (fun i hi => strp_len2 h1 hi)
        have HST : Hid (∀ (k z : Nat), l.getD k 0 = (z : Int) → (blankT s.1 l (firstLen s) k).set z (zerosL (firstLen s)) = blankT s.1 l (firstLen s) (k + 1)) := Lib.hid (fun k z hz => by simp only [blankT, putAll, hz]; rfl)
        have HIN : Hid (∀ j, j < l.length → 0 ≤ l.getD j 0 ∧ l.getD j 0 < s.1.length) := Lib.hid (fun j hj => ⟨((someOk_iff l _).1 h3 j hj).1, ((someOk_iff l _).1 h3 j hj).2.1⟩)
        have HBL : Hid (∀ k, (blankT s.1 l (firstLen s) k).length = s.1.length) := Lib.hid (fun k => putAll_length _ _ _ _)
        have HZ0 : Hid (blankT s.1 l (firstLen s) 0 = s.1) := Lib.hid rfl
        have HLT : Hid (∀ i, i < l.length → plusL (comb s.1.length (firstLen s) (prmF i) (blankT s.1 l (firstLen s) l.length)) 1 (s.2.getD i []) = leftT s l i) := Lib.hid (fun i hi => by
          rw [leftT]; exact plusL_comm (by rw [strp_len2 h1 (by omega), comb, mkRow_length]))
        have HLF : Hid (∀ i, i < l.length → (leftT s l i).length = firstLen s) := Lib.hid (fun i hi => by rw [leftT, plusL_length, strp_len2 h1 (by omega)])
        have HFT : Hid (textsF l.length (foundT s l) = rowsT l.length l.length (firstLen s) (bst (liF l) idF l.length l.length) (textsF l.length (leftT s l))) := Lib.hid (by rw [← textsF_rows]; rfl)
        have HPB : Hid (putAll (blankT s.1 l (firstLen s) l.length) l (foundT s l) l.length = putAll s.1 l (foundT s l) l.length) := Lib.hid (putAll_blank _ _ _ _ _)
        have HPT := Lib.hid (part_li l)
        obtain ⟨n0, hn0⟩ : ∃ n0, n0 = firstLen s := ⟨_, rfl⟩
        have HN0 := Lib.hid hn0
        rw [← hn0] at h40 HLEN HL2 HST HBL HZ0 HLT HLF HFT HPB
        obtain ⟨n, hn⟩ : ∃ n, n = s.1.length := ⟨_, rfl⟩
        obtain ⟨m, hm⟩ : ∃ m, m = s.2.length := ⟨_, rfl⟩
        obtain ⟨r, hr⟩ : ∃ r, r = l.length := ⟨_, rfl⟩
        have HN := Lib.hid hn
        have HM := Lib.hid hm
        have HR := Lib.hid hr
        have bn : 1 ≤ n ∧ n ≤ 16 := by omega
        have bm : 1 ≤ m ∧ m ≤ 4 := by omega
        have hrm : r ≤ m := by omega
        rw [← hn] at c0 c1 fx0 fx1 r0 r1 f0 f1 hsz2 HG HK2 HV0 HSO HIN HBL HLT ⊢
        rw [← hm] at c0 c1 fx0 fx1 r0 r1 f0 f1 hsz2 HG HK2 HU0 hgt hgt2 hgt3 HL2 ⊢
        rw [← hr] at HX0 hgt hgt2 hgt3 HSO HIN HLT HLF HFT HPB HPT ⊢
        clear h1 b1 h2 h3 hn hm hr hn0
        go_enter Tryd.func29, Tryd.ntmps29
        go_wp2_with fail
        refine HG.out.mono ?_
        rintro e' w3 ⟨rfl, k3⟩
        have s3 := k3.size
        replace c0 := cell_turn k3 c0 (by omega)
        replace c1 := cell_turn k3 c1 (by omega)
        replace fx0 := frozen_turn k3 fx0 (by omega)
        replace fx1 := frozen_turn k3 fx1 (by omega)
        replace r0 := cell_turn k3 r0 (by omega)
        replace r1 := cell_turn k3 r1 (by omega)
        replace f0 := frozen_turn k3 f0 (by omega)
        replace f1 := frozen_turn k3 f1 (by omega)
        generalize ((w.alloc (.cells #[.slice A n c, .slice B m d] 25)).alloc (.cells #[.slice none 0 0, .slice none 0 0] 25)) = w2 at *
        have k03 := turn_trans HK2.out k3 (by omega)
        have hz3 : w.heap.size + 2 ≤ w3.heap.size := by omega
        have HL := Lib.hid (l6Own_own _ _ s w3 (HV0.out.touch k03) (HU0.out.touch k03) (by rw [← HN.out]; omega) (by rw [← HM.out]; omega))
        have HS3 := Lib.hid (HSO.out w3 (HX0.out.touch k03))
        have HR3 := Lib.hid (show KeptR w3 (w.heap.size + 1) from ⟨r0, r1, f0, f1⟩)
        clear HG r0 r1 f0 f1 k3 s3 HSO
        go_wp2_with fail
        refine HS3.out.mono ?_
        rintro e' w' ⟨rfl, rfl⟩
        go_wp2_with fail
        refine HL.out.mono ?_
        rintro e' w5 ⟨d1, p1, rfl, hO, k5⟩
        obtain ⟨mid, hlmm, hmh, oD, oP⟩ := hO
        obtain ⟨gd, cp1, rfl, hg1a, hg1b, hcp1, hcm1', _, _⟩ := oD.shape (by rw [← HN.out]; exact bn.1)
        obtain ⟨gp, cp2, rfl, hg2a, hg2b, hcp2, hcm2', _, _⟩ := oP.shape (by rw [← HM.out]; exact bm.1)
        rw [← HN.out] at oD hcp1 ⊢
        rw [← HM.out] at oP hcp2 ⊢
        unfold maxLen at hcm1' hcm2'
        have s5 := k5.size
        replace c0 := cell_turn k5 c0 (by omega)
        replace c1 := cell_turn k5 c1 (by omega)
        replace fx0 := frozen_turn k5 fx0 (by omega)
        replace fx1 := frozen_turn k5 fx1 (by omega)
        have hSB := SBox.start (w := w) (B := w.heap.size) oD oP c0 c1 (by omega) hlmm hmh (k5.base k03.to_below (by omega) (by omega)) (Nat.le_refl _)
        have hR5 := ((HR3.out.turn k5 (by omega)).set (g := w.heap.size) (o := 0) (z := .slice (some ⟨gd, 0, none⟩) n cp1) (by omega)).set (g := w.heap.size) (o := 1) (z := .slice (some ⟨gp, 0, none⟩) m cp2) (by omega)
        have hs6 : w5.heap.size ≤ ((w5.setCell ⟨w.heap.size, 0, none⟩ (.slice (some ⟨gd, 0, none⟩) n cp1)).setCell ⟨w.heap.size, 1, none⟩ (.slice (some ⟨gp, 0, none⟩) m cp2)).heap.size := by simp
        have hs6' : ((w5.setCell ⟨w.heap.size, 0, none⟩ (.slice (some ⟨gd, 0, none⟩) n cp1)).setCell ⟨w.heap.size, 1, none⟩ (.slice (some ⟨gp, 0, none⟩) m cp2)).heap.size ≤ w5.heap.size := by simp
        have HSB := Lib.hid hSB
        have HR5 := Lib.hid hR5
        have hz5 : w.heap.size + 2 ≤ w5.heap.size := by omega
        have hd0 := hSB.c0
        have hd1 := hSB.c1
        clear hSB hR5 oD oP k03 k5 HL HS3
        by_cases hr0 : r = 0
        · subst hr0
          have HOK : Hid (mndOk s l = true) := Lib.hid (by rw [HDEF.out, H1.out, ← HN.out, ← HR.out]; rw [← HN.out] at H3; rw [H3.out]; simp)
          have HRR : Hid (mndR s l = (s.1, s.2)) := Lib.hid (by rw [mndR_yes HOK.out]; simp only [mndS, ← HR.out, putAll])
          obtain ⟨q0, q1, g0, g1⟩ := HR5.out
          have HF := Lib.hid (duo_store (R := w.heap.size + 1) HSB.out.own HSB.out.old (by omega) (by omega) (by omega))
          go_wp2_with fail
          refine bodyPost_ret (v := .tuple #[.agg #[.slice (some ⟨gd, 0, none⟩) n cp1, .slice (some ⟨gp, 0, none⟩) m cp2], .bool true]) (by simp [results, Tryd.results29, go_sem, q0, q1, g0, g1]) rfl ?_
          exact ⟨_, _, by rw [HOK.out], by rw [HRR.out]; exact HF.out.1, HF.out.2⟩
        · have hr1 : 1 ≤ r := by omega
          have hre : ((r : Int) == 0) = false := by simp; omega
          obtain ⟨bl, offl, el, hxl, hbll, hlml, hmml, hcelll⟩ : ∃ b off c', Value.slice X r e = .slice (some ⟨b, off, none⟩) r c' ∧ b < w.heap.size ∧ r ≤ c' ∧ c' ≤ maxLen ∧ ∀ j y, (ints l)[j]? = some y → w.cell? ⟨b, off + j, none⟩ = some y := by
            obtain ⟨X', e'', hxx, h1, h2, h3⟩ := HX0.out
            rw [ints_length, ← HR.out] at hxx h1 h3
            obtain ⟨b, off, rfl, hb, hc⟩ := h3 (by omega)
            exact ⟨b, off, e'', hxx, hb, h1, h2, hc⟩
          obtain ⟨rfl, rfl⟩ : X = some ⟨bl, offl, none⟩ ∧ e = el := by simpa using hxl
          have HCL : Hid (∀ k, k < r → w.cell? ⟨bl, offl + k, none⟩ = some (.int .i64 (l.getD k 0))) := Lib.hid (fun k hk => by
            have h1 := hcelll k _ (ints_get l k (by rw [← HR.out]; exact hk))
            have h2 : l[k]'(by rw [← HR.out]; exact hk) = l.getD k 0 := by simp [List.getD, show k < l.length by rw [← HR.out]; exact hk]
            rwa [h2] at h1)
          unfold maxLen at hmml
          clear hcelll hxl
          rw [← HZ0.out] at HSB
          obtain ⟨i0, hi0, hzz0, hzz1, hzz2⟩ := info_parts infoByte
          obtain ⟨M0, hM0⟩ : ∃ M, M = madeCells (Value.int .u8 0).cells (((n0 : Nat) : Int).toNat * i0.size) := ⟨_, rfl⟩
          have hmk : ∀ W : World, (Instr.makeSlice 22 (.int .i64 (n0 : Int)) (.int .i64 (n0 : Int))).run Tryd.prog W = .ok (.slice (some ⟨W.heap.size, 0, none⟩) n0 n0) (W.alloc (.cells M0 5)) := fun W => by
            have h := run_make (P := Tryd.prog) W 22 5 i0 (.int .u8 0) Tryd.underlying22 hi0 hzz0 .i64 .i64 (n0 : Int) (n0 : Int) (by omega) (by omega) (by rw [hzz2]; omega) (by omega)
            rw [← hM0] at h
            simpa using h
          have HML : Hid (M0.toList = List.replicate n0 (.int .u8 0)) := Lib.hid (by
            rw [hM0, hzz1]
            have h := toList_madeCells_one (.int .u8 0) n0
            have e : ((n0 : Nat) : Int).toNat * 1 = n0 := by simp
            rw [e]
            exact h)
          have HSM := Lib.hid (fun X : World => seen_made X n0 M0 5 HML.out (by omega))
          clear hM0 hi0 hzz0 hzz1 hzz2 HML
          go_wp2_with fail
          generalize ((w5.setCell ⟨w.heap.size, 0, none⟩ (.slice (some ⟨gd, 0, none⟩) n cp1)).setCell ⟨w.heap.size, 1, none⟩ (.slice (some ⟨gp, 0, none⟩) m cp2)) = w5b at *
          clear c0 c1 fx0 fx1 hd0 hd1
          go_loopw [44] (fun i wr => ∃ k : Nat, k ≤ r ∧ i = .int .i64 k ∧ w5.heap.size ≤ wr.heap.size ∧ Hid (SBox 9 w wr w.heap.size w3.heap.size mid w5.heap.size (.slice (some ⟨gd, 0, none⟩) n cp1) (.slice (some ⟨gp, 0, none⟩) m cp2) (blankT s.1 l n0 k) s.2) ∧ Hid (KeptR wr (w.heap.size + 1))) (fun i _ => r - (intOf i).toNat)
          case atStart => exact ⟨0, Nat.zero_le _, rfl, hs6, HSB, HR5⟩
          case round =>
            obtain ⟨k, hk, rfl, hszr, HSR, HRR⟩ := hrel
            clear HSB HR5 hs6 hs6'
            by_cases hlt : k < r
            · have hki : (k : Int) < (r : Int) := by omega
              have hcl := (HSR.out.old.cell (p := ⟨bl, offl + k, none⟩) hbll).trans (HCL.out k hlt)
              obtain ⟨z, hz⟩ := Int.eq_ofNat_of_zero_le (HIN.out k hlt).1
              have hzn : z < n := by have := (HIN.out k hlt).2; omega
              have hzi : (z : Int) < (n : Int) := by omega
              rw [hz] at hcl
              obtain ⟨hcx, hfr⟩ := HSR.out.data.atK (HBL.out k) hzn
              have hcd := HSR.out.c0
              have hlx2 : ((blankT s.1 l n0 k).getD z []).length = n0 := HLEN.out k _ (getD_mem (by rw [HBL.out]; exact hzn))
              have HNX := Lib.hid (HST.out k z hz)
              have hsz := str_size ((blankT s.1 l n0 k).getD z [])
              rw [hlx2] at hsz
              have hgg := (HSR.out.data.1.lt gd rfl).1
              have hgh := HSR.out.data.2.2 gd rfl
              generalize (blankT s.1 l n0 k).getD z [] = xx at *
              clear hz hlx2
              go_wp2_with fail
              have hS : (fun W : World => W.cell? ⟨w.heap.size, 0, none⟩ = some (.slice (some ⟨gd, 0, none⟩) n cp1) ∧ W.cell? ⟨gd, z, none⟩ = some (.string (str xx))) wr.drew := ⟨hcd, hcx⟩
              refine wp_region_tail (fun W : World => W.cell? ⟨w.heap.size, 0, none⟩ = some (.slice (some ⟨gd, 0, none⟩) n cp1) ∧ W.cell? ⟨gd, z, none⟩ = some (.string (str xx))) 12 (by kernel_rfl) ?_
              refine wpAnyT_take (i := 0) (oi := _) (v := ?va0) rfl (by kernel_rfl) (by kernel_rfl) (by kernel_rfl) (by kernel_rfl) (fun _ _ _ h => h) (Or.inl ⟨by rfl, ?hya0⟩) hS ?resta0
              case hya0 => (intro W hW; obtain ⟨e1, e2⟩ := hW; go_simp; try with_reducible rfl)
              simp only [Act.put, List.setIfInBounds_toArray, List.set_cons_zero, List.set_cons_succ]
              refine wpAnyT_take (i := 1) (oi := _) (v := ?va1) rfl (by kernel_rfl) (by kernel_rfl) (by kernel_rfl) (by kernel_rfl) (fun _ _ _ h => h) (Or.inl ⟨by rfl, ?hya1⟩) hS ?resta1
              case hya1 => (intro W hW; obtain ⟨e1, e2⟩ := hW; go_simp; try with_reducible rfl)
              simp only [Act.put, List.setIfInBounds_toArray, List.set_cons_zero, List.set_cons_succ]
              refine wpAnyT_take (i := 2) (oi := _) (v := ?va2) rfl (by kernel_rfl) (by kernel_rfl) (by kernel_rfl) (by kernel_rfl) (fun _ _ _ h => h) (Or.inl ⟨by rfl, ?hya2⟩) hS ?resta2
              case hya2 => (intro W hW; obtain ⟨e1, e2⟩ := hW; go_simp; try with_reducible rfl)
              simp only [Act.put, List.setIfInBounds_toArray, List.set_cons_zero, List.set_cons_succ]
              refine wpAnyT_take (i := 3) (oi := _) (v := ?va3) rfl (by kernel_rfl) (by kernel_rfl) (by kernel_rfl) (by kernel_rfl) (fun _ _ _ h => h) (Or.inl ⟨by rfl, ?hya3⟩) hS ?resta3
              case hya3 => (intro W hW; obtain ⟨e1, e2⟩ := hW; go_simp; try with_reducible rfl)
              simp only [Act.put, List.setIfInBounds_toArray, List.set_cons_zero, List.set_cons_succ]
              refine wpAnyT_take (i := 4) (oi := _) (v := ?va4) rfl (by kernel_rfl) (by kernel_rfl) (by kernel_rfl) (by kernel_rfl) (fun _ _ _ h => h) (Or.inl ⟨by rfl, ?hya4⟩) hS ?resta4
              case hya4 => (intro W hW; obtain ⟨e1, e2⟩ := hW; go_simp; try with_reducible rfl)
              simp only [Act.put, List.setIfInBounds_toArray, List.set_cons_zero, List.set_cons_succ]
              refine wpAnyT_take (i := 5) (oi := _) (v := ?va5) rfl (by kernel_rfl) (by kernel_rfl) (by kernel_rfl) (by kernel_rfl) (fun _ _ _ h => h) (Or.inl ⟨by rfl, ?hya5⟩) hS ?resta5
              case hya5 => (intro W hW; obtain ⟨e1, e2⟩ := hW; go_simp; try with_reducible rfl)
              simp only [Act.put, List.setIfInBounds_toArray, List.set_cons_zero, List.set_cons_succ]
              refine wpAnyT_take (i := 6) (oi := _) (v := ?va6) rfl (by kernel_rfl) (by kernel_rfl) (by kernel_rfl) (by kernel_rfl) (fun _ _ _ h => h) (Or.inl ⟨by rfl, ?hya6⟩) hS ?resta6
              case hya6 => (intro W hW; obtain ⟨e1, e2⟩ := hW; go_simp; try with_reducible rfl)
              simp only [Act.put, List.setIfInBounds_toArray, List.set_cons_zero, List.set_cons_succ]
              refine wpAnyT_take (i := 7) (oi := _) (v := ?va7) rfl (by kernel_rfl) (by kernel_rfl) (by kernel_rfl) (by kernel_rfl) (fun _ _ _ h => h) (Or.inl ⟨by rfl, ?hya7⟩) hS ?resta7
              case hya7 => (intro W hW; obtain ⟨e1, e2⟩ := hW; go_simp; try with_reducible rfl)
              simp only [Act.put, List.setIfInBounds_toArray, List.set_cons_zero, List.set_cons_succ]
              refine wpAnyT_take (i := 8) (oi := _) (v := ?va8) rfl (by kernel_rfl) (by kernel_rfl) (by kernel_rfl) (by kernel_rfl) (fun _ _ _ h => h) (Or.inl ⟨by rfl, ?hya8⟩) hS ?resta8
              case hya8 => (intro W hW; obtain ⟨e1, e2⟩ := hW; go_simp; try with_reducible rfl)
              simp only [Act.put, List.setIfInBounds_toArray, List.set_cons_zero, List.set_cons_succ]
              refine wpAnyT_one (i := 9) (o := _) rfl (by kernel_rfl) (fun K hK => ?_)
              go_simp
              have k7 := turn_alloc wr (.cells M0 5)
              have hconv := run_string_seen (P := Tryd.prog) 22 5 9 Tryd.underlying22 Tryd.underlying5 Tryd.underlying9 (show Seen (wr.alloc (.cells M0 5)).drew (.slice (some ⟨wr.heap.size, 0, none⟩) n0 n0) (bys (zerosL n0)) from HSM.out wr)
              have s7 := k7.size
              have t0 := cell_turn k7 hcd (by omega)
              have t1 := cell_turn k7 hcx (by omega)
              have t5 := frozen_turn k7 hfr (by omega)
              refine hK.out _ _ (fun _ => ⟨t0, t1⟩) ?_
              clear hK K hS
              try simp only [Act.put, List.setIfInBounds_toArray, List.set_cons_zero, List.set_cons_succ]
              refine wpAnyT_one (i := 10) (o := _) rfl (by kernel_rfl) (fun K hK => ?_)
              go_simp
              refine hK.out _ _ (fun _ => ⟨t0, t1⟩) ?_
              clear hK K
              try simp only [Act.put, List.setIfInBounds_toArray, List.set_cons_zero, List.set_cons_succ]
              refine wpAnyT_one (i := 11) (o := _) rfl (by kernel_rfl) (fun K hK => ?_)
              go_simp
              refine hK.out _ _ (fun _ => ⟨t0, t1⟩) ?_
              clear hK K
              try simp only [Act.put, List.setIfInBounds_toArray, List.set_cons_zero, List.set_cons_succ]
              refine wpAnyT_one (i := 12) (o := _) rfl (by kernel_rfl) (fun K hK => ?_)
              go_simp
              refine hK.out _ _ (fun h => absurd rfl h) ?_
              clear hK K
              try simp only [Act.put, List.setIfInBounds_toArray, List.set_cons_zero, List.set_cons_succ]
              refine wpAnyT_done (by kernel_rfl) ?_ _
              have HS8 : Hid (SBox 9 w ((wr.alloc (.cells M0 5)).setCell ⟨gd, z, none⟩ (.string (str (zerosL n0)))) w.heap.size w3.heap.size mid w5.heap.size (.slice (some ⟨gd, 0, none⟩) n cp1) (.slice (some ⟨gp, 0, none⟩) m cp2) (blankT s.1 l n0 (k + 1)) s.2) := Lib.hid ((HSR.out.turn k7 (by omega)).storeD (HBL.out k) HNX.out (by omega))
              have HR8 : Hid (KeptR ((wr.alloc (.cells M0 5)).setCell ⟨gd, z, none⟩ (.string (str (zerosL n0)))) (w.heap.size + 1)) := Lib.hid ((HRR.out.turn k7 (by omega)).set (by omega))
              have hs8 : w5.heap.size ≤ ((wr.alloc (.cells M0 5)).setCell ⟨gd, z, none⟩ (.string (str (zerosL n0)))).heap.size := by have e : ((wr.alloc (.cells M0 5)).setCell ⟨gd, z, none⟩ (.string (str (zerosL n0)))).heap.size = (wr.alloc (.cells M0 5)).heap.size := (by simp); omega
              clear t0 t1 t5 k7 hconv hcx hfr hcd
              go_wp2_with fail
              go_roundw
              case rel => exact ⟨k + 1, by omega, by go_num, hs8, Lib.hid ⟨HS8.out.data, HS8.out.par, HS8.out.c0, HS8.out.c1, HS8.out.hB, HS8.out.hlm, HS8.out.hmh, HS8.out.old.drew⟩, Lib.hid ⟨HR8.out.r0, HR8.out.r1, HR8.out.f0, HR8.out.f1⟩⟩
              case measure => simp [intOf]; omega
            · obtain rfl : r = k := by omega
              have hki : ¬ (r : Int) < (r : Int) := by omega
              have hd0 := HSR.out.c0
              have hd1 := HSR.out.c1
              have HBR := Lib.hid (HBL.out r)
              clear HSM hmk
              go_wp2_with fail
              refine (l6Matrix_own m n _ bm.1 bn.1 (by omega) bn.2).mono ?_
              rintro e' w6 ⟨v6, vs6, rfl, hM6, k6⟩
              obtain ⟨A6, n6, c6, rfl⟩ := hM6.isSlice
              have s6 := k6.size
              have a7 := turn_alloc w6 (.cells #[.slice A6 n6 c6] 39)
              have cM := alloc_cell w6 (.slice A6 n6 c6) 39
              have l7 := alloc_lt w6 (.cells #[.slice A6 n6 c6] 39)
              have k67 := turn_trans k6 a7 (by omega)
              have HSB2 := Lib.hid (HSR.out.turn k67 (by have := HSR.out.old.size; omega))
              have HRB2 := Lib.hid (HRR.out.turn k67 (by omega))
              have HMM := Lib.hid (hM6.keep a7 (by omega)).seen
              have hb0 := HSB2.out.c0
              have hb1 := HSB2.out.c1
              have s67 := k67.size
              clear HSR HRR hM6 k67 a7 k6 hd0 hd1
              go_wp2_with fail
              generalize hw7 : (w6.alloc (.cells #[.slice A6 n6 c6] 39)) = w7 at *
              clear hw7
              obtain ⟨BM, hBM⟩ : ∃ x, x = w6.heap.size := ⟨_, rfl⟩
              rw [← hBM] at cM l7 ⊢
              clear hBM
              have hw37 : w3.heap.size ≤ w7.heap.size := by omega
              have HLE : Hid (∀ j, j < n → ((blankT s.1 l n0 r).getD j []).length = n0) := Lib.hid (fun j hj => HLEN.out r _ (getD_mem (by rw [HBR.out]; exact hj)))
              refine (l3Rows_own m n n0 prmF (blankT s.1 l n0 r) _ _ _ HMM.out HSB2.out.data.seen HBR.out bn.1 (by omega) (by omega) HLE.out (by omega)).mono ?_
              rintro e' w8 ⟨v8, rfl, o8, k8⟩
              obtain ⟨g8, cp8, rfl, hg8a, hg8b, hcp8, hcm8, hcell8, _⟩ := o8.shape (by rw [rowsT_length]; exact bm.1)
              rw [rowsT_length] at hcp8 hcell8 ⊢
              have HC8 : Hid (∀ k, k < r → w8.cell? ⟨g8, k, none⟩ = some (.string (str (comb n n0 (prmF k) (blankT s.1 l n0 r))))) := Lib.hid (fun k hk => by rw [hcell8 k (by omega), ← textsF_rows, textsF_getD _ _ _ (by omega)])
              have s8 := k8.size
              have HSB3 := Lib.hid (HSB2.out.turn k8 (by have := HSB2.out.old.size; omega))
              have HRB3 := Lib.hid (HRB2.out.turn k8 (by omega))
              have HM3 := Lib.hid (HMM.out.touch k8)
              replace cM := cell_turn k8 cM l7
              have l8 := Nat.lt_of_lt_of_le l7 s8
              have hrc : r ≤ cp8 := by omega
              have hrc2 : (r : Int) ≤ (cp8 : Int) := by omega
              unfold maxLen at hcm8
              have hb0 := HSB3.out.c0
              have hb1 := HSB3.out.c1
              clear HSB2 HRB2 HMM hcell8 o8 k8
              go_wp2_with fail
              go_loopw [9, 76] (fun o i wr => ∃ k : Nat, k ≤ r ∧ i = .int .i64 k ∧ wr.ownsRow w8.heap.size 9 1 o k (strs (textsF k (leftT s l))) ∧ Below w8.heap.size w8 wr) (fun _ i _ => r - (intOf i).toNat)
              case atStart => exact ⟨0, Nat.zero_le _, rfl, World.ownsRow_nil _ _ _ _, Below.refl _ _⟩
              case round =>
                obtain ⟨k, hk, rfl, hown, hb⟩ := hrel
                have hbs := hb.size
                by_cases hlt : k < r
                · have hki : (k : Int) < (r : Int) := by omega
                  have hc8 := (hb.cell (p := ⟨g8, k, none⟩) hg8b).trans (HC8.out k hlt)
                  have hp1 := (hb.cell (p := ⟨w.heap.size, 1, none⟩) (show w.heap.size < w8.heap.size by omega)).trans hb1
                  obtain ⟨hcp, _⟩ := HSB3.out.par.atK HM.out.symm (show k < m by omega)
                  have hgt := HSB3.out.par.2.2 gp rfl
                  have hgt4 := HSB3.out.top
                  replace hcp := (hb.cell (p := ⟨gp, k, none⟩) (show gp < w8.heap.size by omega)).trans hcp
                  have hkm : (k : Int) < (m : Int) := by omega
                  have HLX : Hid (plusL (comb n n0 (prmF k) (blankT s.1 l n0 r)) 1 (s.2.getD k []) = leftT s l k) := Lib.hid (HLT.out k hlt)
                  have HLY : Hid ((s.2.getD k []).length = (comb n n0 (prmF k) (blankT s.1 l n0 r)).length ∧ (comb n n0 (prmF k) (blankT s.1 l n0 r)).length ≤ 1000) := Lib.hid (by
                    have e : (comb n n0 (prmF k) (blankT s.1 l n0 r)).length = n0 := by rw [comb, mkRow_length]
                    rw [e, HL2.out k (by omega)]; omega)
                  have HTS := Lib.hid (textsF_succ k (leftT s l))
                  generalize comb n n0 (prmF k) (blankT s.1 l n0 r) = xa at *
                  generalize s.2.getD k [] = xb at *
                  generalize leftT s l k = xc at *
                  go_wp2_with fail
                  refine (l6Plus_own xa xb 1 _ HLY.out.1 HLY.out.2).mono ?_
                  rintro e' w9 ⟨rfl, k9⟩
                  rw [HLX.out]
                  have s9 := k9.size
                  have hb9 := k9.base hb hbs (by omega)
                  have hown9 := owns_turn0 hown k9
                  clear hc8 hp1 hcp k9
                  go_wp2_with (at_builtin; refine wpList_append1 rfl _ _ _ rfl w8.heap.size 9 _ _ Tryd.underlying23 infoStr rfl _ k _ rfl (hown9.alloc _) w9.heap.size (.string (str xc)) rfl ?d1 rfl ?d2 ?d3 ?d4 ?_)
                  case d1 => simp
                  case d2 => omega
                  case d3 => omega
                  case d4 => first | omega | (simp; omega)
                  intro v10 w10 hown10 hg10 _
                  have hb10 : Below w8.heap.size w8 w10 := below_append (hb9.alloc (by omega) _) (hown9.alloc _) hg10 (Nat.le_refl _) (by simp; omega)
                  have hn10 : w10.ownsRow w8.heap.size 9 1 v10 (k + 1) (strs (textsF (k + 1) (leftT s l))) := by rw [HTS.out]; exact hown10
                  clear hown hown9 hown10 hg10
                  go_wp2_with fail
                  go_roundw
                  case rel => exact ⟨k + 1, by omega, by go_num, hn10, hb10⟩
                  case measure => simp [intOf]; omega
                · obtain rfl : r = k := by omega
                  have hki : ¬ (r : Int) < (r : Int) := by omega
                  generalize hw9 : wr = w9 at *
                  clear hw9
                  obtain ⟨A9, n9, c9, rfl⟩ := own_isSlice hown
                  have HTX : Hid (Seen w9 (.slice A9 n9 c9) (strs (textsF r (leftT s l)))) := Lib.hid (Seen.of_own hown)
                  have k89 := TurnIn.of_below hb
                  have HSB4 := Lib.hid (HSB3.out.turn k89 (by have := HSB3.out.old.size; omega))
                  have HRB4 := Lib.hid (HRB3.out.turn k89 (by omega))
                  have HM4 := Lib.hid (HM3.out.touch k89)
                  replace cM := cell_turn k89 cM l8
                  have l9 := Nat.lt_of_lt_of_le l8 hbs
                  have HX9 := Lib.hid (HX0.out.below HSB4.out.old)
                  have HRG : Hid (∀ i, i < (rangeI r).length → 0 ≤ (rangeI r).getD i 0 ∧ (rangeI r).getD i 0 < m) := Lib.hid (fun i hi => by rw [rangeI_length] at hi; rw [rangeI_get _ _ hi]; omega)
                  have HA : Hid (∀ W, Calls Tryd.prog 82 #[.int .i64 r] W (RetInts 3 W (rangeI r))) := Lib.hid (fun W => l3All_own r W (by omega))
                  have HP : Hid (∀ W u, Below w9.heap.size w9 W → Seen W u (ints (rangeI r)) → Calls Tryd.prog 81 #[.agg #[.slice A6 n6 c6], u, .slice (some ⟨bl, offl, none⟩) r e] W (RetMat 5 22 W (mkM r r (liF l)))) := Lib.hid (fun W u hbW hu => by
                    have h := l2Part_own m n prmF (rangeI r) l _ _ _ W (HM4.out.below hbW) hu (HX9.out.below hbW) HRG.out (fun i hi => HIN.out i (by rw [HR.out]; exact hi)) (by rw [rangeI_length]; omega) (by rw [← HR.out]; omega)
                    rw [← HR.out, HPT.out] at h
                    exact h)
                  have HLK : Hid (decide ((est (liF l) r r).2 = r) = liOk l n) := Lib.hid (by
                    rw [← HN.out] at H3
                    have e : chosen l n = true := by
                      unfold chosen
                      rw [H3.out, Bool.true_and, decide_eq_true_eq, ← HR.out]
                      exact hr1
                    unfold liOk
                    rw [e, Bool.true_and, HR.out])
                  have HI : Hid (∀ W v, SeenM W v (mkM r r (liF l)) → Calls Tryd.prog 80 #[.agg #[v]] W (RetMatOk 5 22 W (mkM r r (bst (liF l) idF r r)) (liOk l n))) := Lib.hid (fun W v hs => by
                    rw [← HLK.out]
                    exact l2Inverse_own r (liF l) v W hs hr1 (by omega))
                  have hS0 : Below w9.heap.size w9 w9.drew ∧ w9.drew.cell? ⟨BM, 0, none⟩ = some (.slice A6 n6 c6) := ⟨(Below.refl _ _).drew, cM⟩
                  have HSX : Hid (∀ W, Below w9.heap.size w9 W → (Below w9.heap.size w9 W ∧ W.cell? ⟨BM, 0, none⟩ = some (.slice A6 n6 c6))) := Lib.hid (fun W hb => ⟨hb, (hb.cell (p := ⟨BM, 0, none⟩) l9).trans cM⟩)
                  clear hown hb HSB3 HRB3 HM3
                  go_wp2_with fail
                  go_cut [12, 13] from 92 to 101 (fun p q wx => XBox w9 (mkM r r (bst (liF l) idF r r)) (liOk l n) p q wx)
                  case first =>
                    go_region_held3 (fun W => Below w9.heap.size w9 W ∧ W.cell? ⟨BM, 0, none⟩ = some (.slice A6 n6 c6))
                      (first | exact hS0 | exact HSX.out _ ((Below.refl _ _).alloc (Nat.le_refl _) _) | exact HSX.out _ ((Below.refl _ _).alloc (Nat.le_refl _) _).drew | exact HSX.out _ hb11 | exact HSX.out _ (hb11.alloc hb11.size _) | exact HSX.out _ hb12 | exact HSX.out _ (hb12.alloc hb12.size _) | exact HSX.out _ hb13 | exact HSX.out _ (hb13.alloc hb13.size _) | exact HSX.out _ (hb13.setCell (p := ⟨w9.heap.size, 0, none⟩) (Nat.le_refl _) _) | exact HSX.out _ (hb13.setCell (p := ⟨w11.heap.size, 0, none⟩) hb11.size _) | exact HSX.out _ (hb13.setCell (p := ⟨w12.heap.size, 0, none⟩) hb12.size _))
                      (first
                        | (go_at_call 82; refine (HA.out _).mono ?_; rintro e' w11 ⟨u11, rfl, o11, k11⟩; have hb11 : Below w9.heap.size w9 w11 := k11.base (And.left (by assumption)) (Below.size (And.left (by assumption))) (by omega); have HO11 := Lib.hid o11.seen; clear o11; (first | (have fb := boxS_made k11; obtain ⟨b0, b1, b2⟩ := fb) | (have fb := boxS_made (undrew k11); obtain ⟨b0, b1, b2⟩ := fb) | skip))
                        | (go_at_call 81; refine (HP.out _ _ (And.left (by assumption)) (by first | exact HO11.out | exact HO11.out.touch (turn_alloc _ _))).mono ?_; rintro e' w12 ⟨u12, vs12, rfl, o12, k12⟩; have hb12 : Below w9.heap.size w9 w12 := k12.base (And.left (by assumption)) (Below.size (And.left (by assumption))) (by omega); have HO12 := Lib.hid o12.seen; clear o12; (first | (have fb := boxS_kept ⟨b0, b1, b2⟩ k12; obtain ⟨b0, b1, b2⟩ := fb) | (have fb := boxS_made k12; obtain ⟨b0, b1, b2⟩ := fb) | skip))
                        | (go_at_call 80; refine (HI.out _ _ (by first | exact HO12.out | exact HO12.out.touch (turn_alloc _ _))).mono ?_; rintro e' w13 ⟨u13, vs13, rfl, o13, k13⟩; obtain ⟨A13, n13, c13, rfl⟩ := o13.isSlice; have HO13 := Lib.hid o13; clear o13; have hb13 : Below w9.heap.size w9 w13 := k13.base (And.left (by assumption)) (Below.size (And.left (by assumption))) (by omega); (first | (have hbo := b2; have fb := boxS_kept ⟨b0, b1, b2⟩ k13; obtain ⟨b0, b1, b2⟩ := fb) | (have hbo := alloc_lt w12 (.cells #[.slice none 0 0] 39); have fb := boxS_made k13; obtain ⟨b0, b1, b2⟩ := fb) | skip)))
                    all_goals
                      go_wp2_with fail
                      go_meet
                      first
                        | exact xbox_new (TurnIn.of_below hb13) HO13.out.seen
                        | exact xbox_set ⟨b0, b1, b2⟩ (Nat.le_refl _) hbo (TurnIn.of_below hb13) HO13.out
                        | exact xbox_set ⟨b0, b1, b2⟩ hb11.size hbo (TurnIn.of_below hb13) HO13.out
                        | exact xbox_set ⟨b0, b1, b2⟩ hb12.size hbo (TurnIn.of_below hb13) HO13.out
                  case rest =>
                    obtain ⟨B10, x10, rfl, rfl, q0, hB10, hs10, k10⟩ := hcut
                    generalize hwc : wc = w10 at *
                    obtain ⟨A10, n10, c10, rfl⟩ : ∃ A n c, x10 = .slice A n c := by obtain ⟨A, c, e, _⟩ := hs10.len; exact ⟨_, _, _, e⟩
                    have s10 := k10.size
                    have HSB5 := Lib.hid (HSB4.out.turn k10 (by have := HSB4.out.old.size; omega))
                    have HRB5 := Lib.hid (HRB4.out.turn k10 (by omega))
                    have HTX5 := Lib.hid (HTX.out.touch k10)
                    have HS10 := Lib.hid hs10
                    have hb0 := HSB5.out.c0
                    have hb1 := HSB5.out.c1
                    clear hwc HSX hS0 HA HP HI hs10 k10 cM HM4 HSB4 HRB4 HTX HX9
                    by_cases hli : liOk l n = true
                    · have HOK : Hid (mndOk s l = true) := Lib.hid (by
                        rw [HDEF.out, H1.out, ← HN.out, hli, ← HR.out, ← HM.out]
                        rw [← HN.out] at H3
                        rw [H3.out]; simp [hrm])
                      have HRR : Hid (mndR s l = (putAll s.1 l (foundT s l) r, s.2)) := Lib.hid (by rw [mndR_yes HOK.out, HR.out]; rfl)
                      rw [hli]
                      clear hli
                      have HTL : Hid (∀ j, j < r → ((textsF r (leftT s l)).getD j []).length = n0) := Lib.hid (fun j hj => by rw [textsF_getD _ _ _ hj, HLF.out j hj])
                      have HRW := Lib.hid (l3Rows_own r r n0 (bst (liF l) idF r r) (textsF r (leftT s l)) _ _ _ HS10.out HTX5.out (textsF_length _ _) hr1 (by omega) (by omega) HTL.out (by omega))
                      rw [← HFT.out] at HRW
                      go_wp2_with fail
                      refine HRW.out.mono ?_
                      rintro e' w11 ⟨v11, rfl, o11, k11⟩
                      obtain ⟨gx, cx, rfl, hgx1, hgx2, hcx1, hcx2, hcellx, _⟩ := o11.shape (by rw [textsF_length]; exact hr1)
                      rw [textsF_length] at hcx1 hcellx ⊢
                      have HCX : Hid (∀ k, k < r → w11.cell? ⟨gx, k, none⟩ = some (.string (str (foundT s l k)))) := Lib.hid (fun k hk => by rw [hcellx k hk, textsF_getD _ _ _ hk])
                      have s11 := k11.size
                      have HSB6 : Hid (SBox 9 w w11 w.heap.size w3.heap.size mid w5.heap.size (.slice (some ⟨gd, 0, none⟩) n cp1) (.slice (some ⟨gp, 0, none⟩) m cp2) (putAll (blankT s.1 l n0 r) l (foundT s l) 0) s.2) := Lib.hid (HSB5.out.turn k11 (by have := HSB5.out.old.size; omega))
                      have HRB6 := Lib.hid (HRB5.out.turn k11 (by omega))
                      have HPL : Hid (∀ k, (putAll (blankT s.1 l n0 r) l (foundT s l) k).length = n) := Lib.hid (fun k => by rw [putAll_length, HBR.out])
                      have HPS : Hid (∀ (k z : Nat), l.getD k 0 = (z : Int) → (putAll (blankT s.1 l n0 r) l (foundT s l) k).set z (foundT s l k) = putAll (blankT s.1 l n0 r) l (foundT s l) (k + 1)) := Lib.hid (fun k z hz => by simp only [putAll, hz]; rfl)
                      unfold maxLen at hcx2
                      clear hcellx o11 k11 HSB5 HRB5 HTX5 HS10 HRW q0
                      go_wp2_with fail
                      go_loopw [109] (fun i wr => ∃ k : Nat, k ≤ r ∧ i = .int .i64 k ∧ w11.heap.size ≤ wr.heap.size ∧ Hid (SBox 9 w wr w.heap.size w3.heap.size mid w5.heap.size (.slice (some ⟨gd, 0, none⟩) n cp1) (.slice (some ⟨gp, 0, none⟩) m cp2) (putAll (blankT s.1 l n0 r) l (foundT s l) k) s.2) ∧ Hid (KeptR wr (w.heap.size + 1)) ∧ Hid (∀ k, k < r → wr.cell? ⟨gx, k, none⟩ = some (.string (str (foundT s l k))))) (fun i _ => r - (intOf i).toNat)
                      case atStart => exact ⟨0, Nat.zero_le _, rfl, Nat.le_refl _, HSB6, HRB6, HCX⟩
                      case round =>
                        obtain ⟨k, hk, rfl, hszr, HSR, HKR, HCR⟩ := hrel
                        clear HSB6 HRB6 HCX
                        by_cases hlt : k < r
                        · have hki : (k : Int) < (r : Int) := by omega
                          have hct := HCR.out k hlt
                          have hcl := (HSR.out.old.cell (p := ⟨bl, offl + k, none⟩) hbll).trans (HCL.out k hlt)
                          obtain ⟨z, hz⟩ := Int.eq_ofNat_of_zero_le (HIN.out k hlt).1
                          have hzn : z < n := by have := (HIN.out k hlt).2; omega
                          have hzi : (z : Int) < (n : Int) := by omega
                          rw [hz] at hcl
                          obtain ⟨hco, hfr⟩ := HSR.out.data.atK (HPL.out k) hzn
                          have hp0 := HSR.out.c0
                          have HNX := Lib.hid (HPS.out k z hz)
                          have hgg := (HSR.out.data.1.lt gd rfl).1
                          have hgh := HSR.out.data.2.2 gd rfl
                          have hz1 := HSR.out.old.size
                          have hz2 := HSR.out.hmh
                          generalize foundT s l k = ft at *
                          have hneL : gd ≠ bl := by omega
                          have hneB : gd ≠ w.heap.size := by omega
                          have HD3 : Hid (SBox 9 w (wr.setCell ⟨gd, z, none⟩ (.string (str ft))) w.heap.size w3.heap.size mid w5.heap.size (.slice (some ⟨gd, 0, none⟩) n cp1) (.slice (some ⟨gp, 0, none⟩) m cp2) (putAll (blankT s.1 l n0 r) l (foundT s l) (k + 1)) s.2) := Lib.hid (HSR.out.storeD (HPL.out k) HNX.out (by omega))
                          have HK3 := Lib.hid (HKR.out.set (g := gd) (o := z) (z := .string (str ft)) (by omega))
                          have HC3 : Hid (∀ k, k < r → (wr.setCell ⟨gd, z, none⟩ (.string (str ft))).cell? ⟨gx, k, none⟩ = some (.string (str (foundT s l k)))) := Lib.hid (fun k hk => (cell_set_other wr _ _ _ (by omega)).trans (HCR.out k hk))
                          have e0 := HD3.out.c0
                          have hs3 : w11.heap.size ≤ (wr.setCell ⟨gd, z, none⟩ (.string (str ft))).heap.size := by have e : (wr.setCell ⟨gd, z, none⟩ (.string (str ft))).heap.size = wr.heap.size := (by simp); omega
                          clear hz
                          go_wp2_with fail
                          go_region_held3 (fun W => W.cell? ⟨w.heap.size, 0, none⟩ = some (.slice (some ⟨gd, 0, none⟩) n cp1) ∧ W.cell? ⟨bl, offl + k, none⟩ = some (.int .i64 z))
                            (first | exact ⟨hp0, hcl⟩ | exact ⟨e0, (cell_set_other _ _ _ _ hneL).trans hcl⟩)
                            (fail)
                          all_goals
                            go_wp2_with fail
                            go_roundw
                            case rel => exact ⟨k + 1, by omega, by go_num, hs3, Lib.hid ⟨HD3.out.data, HD3.out.par, HD3.out.c0, HD3.out.c1, HD3.out.hB, HD3.out.hlm, HD3.out.hmh, HD3.out.old.drew⟩, Lib.hid ⟨HK3.out.r0, HK3.out.r1, HK3.out.f0, HK3.out.f1⟩, HC3⟩
                            case measure => simp [intOf]; omega
                        · obtain rfl : r = k := by omega
                          have hki : ¬ (r : Int) < (r : Int) := by omega
                          obtain ⟨t0, t1, g0, g1⟩ := HKR.out
                          rw [HPB.out] at HSR
                          have hp0 := HSR.out.c0
                          have hp1 := HSR.out.c1
                          have HF := Lib.hid (duo_store (R := w.heap.size + 1) HSR.out.own HSR.out.old (by omega) (by omega) (by omega))
                          go_wp2_with fail
                          refine bodyPost_ret (v := .tuple #[.agg #[(.slice (some ⟨gd, 0, none⟩) n cp1), (.slice (some ⟨gp, 0, none⟩) m cp2)], .bool true]) (by simp [results, Tryd.results29, go_sem, t0, t1, g0, g1]) rfl ?_
                          exact ⟨_, _, by rw [HOK.out], by rw [HRR.out]; exact HF.out.1, HF.out.2⟩
                    · have HLO : Hid (liOk l n = false) := Lib.hid (by simpa using hli)
                      have HOK : Hid (mndOk s l = false) := Lib.hid (by rw [HDEF.out, ← HN.out, HLO.out, ← HR.out]; simp [hr0])
                      have HRR := Lib.hid (mndR_no HOK.out)
                      rw [HLO.out]
                      obtain ⟨r0, r1, f0, f1⟩ := HRB5.out
                      have HF := Lib.hid (duo_store (R := w.heap.size + 1) (OwnT.nil 9 w10 (w.heap.size + 2) (by omega)) HSB5.out.old (by omega) (by omega) (by omega))
                      clear hli
                      go_wp2_with fail
                      refine bodyPost_ret (v := .tuple #[.agg #[.slice none 0 0, .slice none 0 0], .bool false]) (by simp [results, Tryd.results29, go_sem, r0, r1, f0, f1]) rfl ?_
                      exact ⟨_, _, by rw [HOK.out], by rw [HRR.out]; exact HF.out.1, HF.out.2⟩
      · have HO : Hid (mndOk s l = false) := Lib.hid (by rw [HDEF.out]; simp [h2])
        have hgt : (s.2.length : Int) < (l.length : Int) := by omega
        rw [HO.out, HNO.out HO.out]
        clear h1 b1 h2 h3 HDEF HNO
        go_enter Tryd.func29, Tryd.ntmps29
        go_wp2_with fail
        refine HG.out.mono ?_
        rintro e' w3 ⟨rfl, k3⟩
        have s3 := k3.size
        replace c0 := cell_turn k3 c0 (by omega)
        replace c1 := cell_turn k3 c1 (by omega)
        replace fx0 := frozen_turn k3 fx0 (by omega)
        replace fx1 := frozen_turn k3 fx1 (by omega)
        replace r0 := cell_turn k3 r0 (by omega)
        replace r1 := cell_turn k3 r1 (by omega)
        replace f0 := frozen_turn k3 f0 (by omega)
        replace f1 := frozen_turn k3 f1 (by omega)
        have HF := Lib.hid (duo_store (R := w.heap.size + 1) (OwnT.nil 9 w3 (w.heap.size + 2) (by omega)) (turn_trans HK2.out k3 (by omega)).to_below (by omega) (by omega) (by omega))
        have HS3 := Lib.hid (HSO.out w3 (HX0.out.touch (turn_trans HK2.out k3 (by omega))))
        go_wp2_with fail
        refine HS3.out.mono ?_
        rintro e' w' ⟨rfl, rfl⟩
        go_wp2_with fail
        refine bodyPost_ret (v := .tuple #[.agg #[.slice none 0 0, .slice none 0 0], .bool false]) (by simp [results, Tryd.results29, go_sem, r0, r1, f0, f1]) rfl ?_
        exact ⟨_, _, rfl, HF.out.1, HF.out.2⟩
    · have H3 : Hid (someOk l s.1.length = false) := Lib.hid (by simpa using h3)
      have HO : Hid (mndOk s l = false) := Lib.hid (by rw [HDEF.out, H3.out]; simp)
      rw [H3.out] at HSO
      rw [HO.out, HNO.out HO.out]
      clear h1 b1 h3 HDEF HNO
      go_enter Tryd.func29, Tryd.ntmps29
      go_wp2_with fail
      refine HG.out.mono ?_
      rintro e' w3 ⟨rfl, k3⟩
      have s3 := k3.size
      replace c0 := cell_turn k3 c0 (by omega)
      replace c1 := cell_turn k3 c1 (by omega)
      replace fx0 := frozen_turn k3 fx0 (by omega)
      replace fx1 := frozen_turn k3 fx1 (by omega)
      replace r0 := cell_turn k3 r0 (by omega)
      replace r1 := cell_turn k3 r1 (by omega)
      replace f0 := frozen_turn k3 f0 (by omega)
      replace f1 := frozen_turn k3 f1 (by omega)
      have HF := Lib.hid (duo_store (R := w.heap.size + 1) (OwnT.nil 9 w3 (w.heap.size + 2) (by omega)) (turn_trans HK2.out k3 (by omega)).to_below (by omega) (by omega) (by omega))
      have HS3 := Lib.hid (HSO.out w3 (HX0.out.touch (turn_trans HK2.out k3 (by omega))))
      go_wp2_with fail
      refine HS3.out.mono ?_
      rintro e' w' ⟨rfl, rfl⟩
      go_wp2_with fail
      refine bodyPost_ret (v := .tuple #[.agg #[.slice none 0 0, .slice none 0 0], .bool false]) (by simp [results, Tryd.results29, go_sem, r0, r1, f0, f1]) rfl ?_
      exact ⟨_, _, rfl, HF.out.1, HF.out.2⟩
  · have H1 : Hid (strpOk s = false) := Lib.hid (by simpa using h1)
    have HO : Hid (mndOk s l = false) := Lib.hid (by rw [HDEF.out, H1.out]; simp)
    rw [H1.out] at HG
    rw [HO.out, HNO.out HO.out]
    clear h1 HDEF HNO
    go_enter Tryd.func29, Tryd.ntmps29
    go_wp2_with fail
    refine HG.out.mono ?_
    rintro e' w3 ⟨rfl, k3⟩
    have s3 := k3.size
    replace c0 := cell_turn k3 c0 (by omega)
    replace c1 := cell_turn k3 c1 (by omega)
    replace fx0 := frozen_turn k3 fx0 (by omega)
    replace fx1 := frozen_turn k3 fx1 (by omega)
    replace r0 := cell_turn k3 r0 (by omega)
    replace r1 := cell_turn k3 r1 (by omega)
    replace f0 := frozen_turn k3 f0 (by omega)
    replace f1 := frozen_turn k3 f1 (by omega)
    have HF := Lib.hid (duo_store (R := w.heap.size + 1) (OwnT.nil 9 w3 (w.heap.size + 2) (by omega)) (turn_trans HK2.out k3 (by omega)).to_below (by omega) (by omega) (by omega))
    go_wp2_with fail
    refine bodyPost_ret (v := .tuple #[.agg #[.slice none 0 0, .slice none 0 0], .bool false]) (by simp [results, Tryd.results29, go_sem, r0, r1, f0, f1]) rfl ?_
    exact ⟨_, _, rfl, HF.out.1, HF.out.2⟩

end Go.Proofs.YtfglkgeeelapgaaDoor
