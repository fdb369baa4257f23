/- A matrix by texts: the model's l3Rows. -/
import Derived.Test.YtipmfebnjmobfaaDoorComb
import Derived.Test.YtipmfebnjmobfaaDoorMatI
set_option linter.unusedSimpArgs false
set_option linter.unusedVariables false
namespace G294
open Go Go.RowKit
/-- the texts that a matrix makes of texts -/
def rowsT (r c n : Nat) (F : Ents) (T : List (List UInt8)) : List (List UInt8) := mkM r n fun i => combF c (F i) T
@[simp] theorem rowsT_length (r c n : Nat) (F : Ents) (T : List (List UInt8)) : (rowsT r c n F T).length = r := by simp [rowsT]
theorem rowsT_succ (r c n : Nat) (F : Ents) (T : List (List UInt8)) : rowsT (r + 1) c n F T = rowsT r c n F T ++ [comb c n (F r) T] := by simp [rowsT, mkM, comb, List.range_succ]
end G294
namespace Go.Proofs.YtipmfebnjmobfaaDoor
open Go.RowKit G294

set_option maxRecDepth 100000 in
set_option maxHeartbeats 4000000 in
theorem l3Rows_own (r c n : Nat) (F : Ents) (T : List (List UInt8)) (vm vt : Value) (w : World) (hm : SeenM w vm (mkM r c F)) (htx : Seen w vt (strs T)) (hc : T.length = c) (hc1 : 1 ≤ c) (hcc : c ≤ 1000) (hrr : r ≤ 1000)
    (hn : ∀ j, j < c → (T.getD j []).length = n) (hn2 : n ≤ 1000) : Calls Tryd.prog 68 #[.agg #[vm], vt] w (RetStrs 9 w (rowsT r c n F T)) := by
  obtain ⟨i0, hi0, hz0, hz1, hz2⟩ := info_parts infoByte
  have hb0 : Below w.heap.size w (w.alloc (.cells #[vm] 60)) := (Below.refl _ _).alloc (Nat.le_refl _) _
  have HM := Lib.hid hm
  obtain ⟨A0, cp0, rfl, hl0, hm0⟩ := hm.len
  rw [mkM_length] at hl0 HM hb0 ⊢
  obtain ⟨A', cp', rfl, hlc', hcm', hx'⟩ := htx
  rw [strs_length, hc] at hlc' hx'
  simp only [strs_length, hc]
  unfold maxLen at hm0 hcm'
  obtain ⟨b', off', rfl, hbl', hcell'⟩ := hx' (by omega)
  have htxt : ∀ j, j < c → w.cell? ⟨b', off' + j, none⟩ = some (.string (str (T.getD j []))) := fun j hj => by
    have := hcell' j _ (strs_get T j (by omega))
    rw [this]; simp [List.getD, show j < T.length by omega]
  have hc0 : w.cell? ⟨b', off', none⟩ = some (.string (str (T.getD 0 []))) := by
    have := htxt 0 (by omega)
    rwa [Nat.add_zero] at this
  have hs0 : (str (T.getD 0 [])).size = n := by rw [str_size]; exact hn 0 (by omega)
  generalize T.getD 0 [] = t0 at hc0 hs0
  have HTXT := Lib.hid htxt
  have HNN := Lib.hid hn
  clear hcell' hx' htxt hn hc hm
  go_enter Tryd.func68, Tryd.ntmps68
  go_wp2_with fail
  go_loopw [5, 15] (fun o i wr => ∃ k : Nat, k ≤ r ∧ i = .int .i64 k ∧ wr.ownsRow w.heap.size 9 1 o k (strs (rowsT k c n F T)) ∧ Below w.heap.size w wr)
    (fun _ i _ => r - (intOf i).toNat)
  case atStart => exact ⟨0, Nat.zero_le _, rfl, World.ownsRow_nil _ _ _ _, hb0⟩
  case round =>
    obtain ⟨k, hk, rfl, hown, hb⟩ := hrel
    clear hb0
    by_cases hlt : k < r
    · have hki : (k : Int) < (r : Int) := by omega
      obtain ⟨bb, off, c9, A1, c1, hvv, _, hbb, hcx, hc9, hsr⟩ := (HM.out.below hb).rowF k hlt
      simp only [Value.slice.injEq] at hvv
      obtain ⟨rfl, z9, rfl⟩ := hvv
      obtain ⟨A2, c2, hA2, hcc2, hcm2, hx2⟩ := hsr
      simp only [bys_length, mkRow_length] at hA2 hcc2 hx2
      obtain ⟨b, off2, hA3, hb2, hrow⟩ := hx2 (by omega)
      simp only [Value.slice.injEq] at hA2
      obtain ⟨rfl, _, rfl⟩ := hA2
      subst hA3
      have hcw0 : wr.cell? ⟨b', off', none⟩ = some (.string (str t0)) := (hb.cell (p := ⟨b', off', none⟩) hbl').trans hc0
      have HROW : Hid (∀ j, j < c → wr.cell? ⟨b, off2 + j, none⟩ = some (.int .u8 ((F k j).toNat : Int))) := fun j hj => by
        have := hrow j _ (bys_get _ j (by simpa using hj))
        rwa [mkRow_get] at this
      have hbs := hb.size
      unfold maxLen at hc9
      clear hrow hx2 z9
      go_wp2_with (at_make; refine wpList_make_full _ rfl _ _ _ rfl wr.heap.size _ i0 _ 1 Tryd.underlying42 hi0 hz0 hz1 _ _ _ _ n rfl rfl rfl rfl ?b2 ?b3 ?b4 ?_)
      case b2 => rw [hz2]; omega
      case b3 => unfold maxLen; omega
      case b4 => exact Nat.le_refl _
      intro w1 hown1 hg1
      rw [toList_madeCells_one] at hown1
      have k1 : TurnIn 0 0 wr w1 := TurnIn.of_grown hg1 (by simp)
      have hs1 : wr.heap.size < w1.heap.size := (hown1.lt wr.heap.size rfl).2
      have hO : OwnBytes 5 w1 wr.heap.size (wr.heap.size + 1) (.slice (some ⟨wr.heap.size, 0, none⟩) n n) (mkRow n (combF 0 (F k) T)) := by
        refine ⟨?_, hs1, fun g e => by simp [Value.ownBlock] at e; omega⟩
        rw [mkRow_length, bys_zero n (combF 0 (F k) T) (fun _ _ => rfl)]; exact hown1
      obtain ⟨B, hB⟩ : ∃ B, B = wr.heap.size := ⟨_, rfl⟩
      have hown' := owns_turn0 hown k1
      have hlo : ∀ g, Value.ownBlock u5 = some g → g < B := fun g e => by rw [hB]; exact (hown.lt g e).2
      have hbw1 : Below w.heap.size w w1 := k1.base hb (by omega) (by omega)
      have hrb : ∀ j, j < c → w1.cell? ⟨b, off2 + j, none⟩ = some (.int .u8 ((F k j).toNat : Int)) := fun j hj => cell_turn k1 (HROW.out j hj) (by omega)
      have hbB : b < B := by omega
      have hwB : w.heap.size ≤ B := by omega
      rw [← hB] at hO hs1 ⊢
      have HRB := Lib.hid hrb
      have HOWN := Lib.hid hown'
      have HLO := Lib.hid hlo
      clear hg1 hown1 hown hown' hlo hrb hcx hB k1 HROW hb hcw0 hb2
      go_wp2_with fail
      go_loopw [26] (fun i wq => ∃ j : Nat, j ≤ c ∧ i = .int .i64 j ∧ OwnBytes 5 wq B (B + 1) (.slice (some ⟨B, 0, none⟩) n n) (mkRow n (combF j (F k) T)) ∧ TurnIn B (B + 1) w1 wq)
        (fun i _ => c - (intOf i).toNat)
      case atStart => exact ⟨0, Nat.zero_le _, rfl, hO, ⟨rfl, rfl, rfl, Nat.le_refl _, fun _ _ _ => rfl⟩⟩
      case round =>
        obtain ⟨j, hj, rfl, hOj, hk1⟩ := hrel
        clear hO
        by_cases hltj : j < c
        · have hji : (j : Int) < (c : Int) := by omega
          have hcr : wr.cell? ⟨b, off2 + j, none⟩ = some (.int .u8 ((F k j).toNat : Int)) := (World.cell?_of_block (hk1.block b (by omega) (by omega))).trans (HRB.out j hltj)
          have hO2 : OwnBytes 5 wr B (B + 1) (.slice (some ⟨B, 0, none⟩) n n) (mkRow n fun p => if p < 0 then combF (j + 1) (F k) T p else combF j (F k) T p) := by simpa using hOj
          have hst : (str (T.getD j [])).size = n := by rw [str_size]; exact HNN.out j hltj
          have HE : Hid (∀ p, ent T j p = (T.getD j []).getD p 0) := fun p => rfl
          have hct0 := HTXT.out j hltj
          generalize T.getD j [] = tj at hct0 hst HE
          have hs9 := hk1.size
          clear hOj
          go_wp2_with fail
          go_loopw [33] (fun i wq => ∃ q : Nat, q ≤ n ∧ i = .int .i64 q ∧ OwnBytes 5 wq B (B + 1) (.slice (some ⟨B, 0, none⟩) n n) (mkRow n fun p => if p < q then combF (j + 1) (F k) T p else combF j (F k) T p) ∧ TurnIn B (B + 1) w1 wq)
            (fun i _ => n - (intOf i).toNat)
          case atStart => exact ⟨0, Nat.zero_le _, rfl, hO2, hk1⟩
          case round =>
            obtain ⟨q, hq, rfl, hO, hkq⟩ := hrel
            clear hO2 hcr hk1
            by_cases hlq : q < n
            · have hqi : (q : Int) < (n : Int) := by omega
              have hcs := hO.cellAt (k := q) (by simpa using hlq)
              have hfr := hO.frozenAt q
              rw [mkRow_getD _ _ _ hlq, if_neg (by omega)] at hcs
              have hct : wr.cell? ⟨b', off' + j, none⟩ = some (.string (str tj)) := (World.cell?_of_block (hkq.block b' (by omega) (by omega))).trans ((hbw1.cell (p := ⟨b', off' + j, none⟩) hbl').trans hct0)
              obtain ⟨y, hy⟩ : ∃ y, y = tj.getD q 0 := ⟨_, rfl⟩
              have hsg := str_get tj q (by omega)
              rw [← hy] at hsg
              have HY : Hid (ent T j q = y) := (HE.out q).trans hy.symm
              have HC := Lib.hid (stilly (l1Times_u8 (F k j) y wr.drew))
              have hxor : bits BinOp.xor IntKind.u8 ((combF j (F k) T q).toNat : Int) ((gmul (F k j) y).toNat : Int) = ((combF (j + 1) (F k) T q).toNat : Int) := by
                rw [xor_u8, combF_succ, HY.out]
              have HO3 := Lib.hid (hO.store (q := q) (x := combF (j + 1) (F k) T q) (by simp) (comb_step n j q (F k) T))
              have hk3 : TurnIn B (B + 1) w1 (wr.setCell ⟨B, q, none⟩ (.int .u8 ((combF (j + 1) (F k) T q).toNat : Int))) := turn_trans hkq (turn_setCell wr B q _) (by omega)
              have HK3 : Hid (TurnIn B (B + 1) w1 (wr.setCell ⟨B, q, none⟩ (.int .u8 ((combF (j + 1) (F k) T q).toNat : Int))).drew) := ⟨hk3.os, hk3.tape, hk3.output, hk3.size, hk3.block⟩
              clear hy hk3
              go_wp2_with fail
              refine wp_region_still_tail 14 (by kernel_rfl) (by kernel_rfl) ?_
              simp only [List.take_succ_cons, List.take_zero, List.drop_succ_cons, List.drop_zero]
              repeat (first | still_step | still_call (HC.out))
              refine wpStill_nil ?_
              go_wp2_with fail
              go_roundw
              case rel => exact ⟨q + 1, by omega, by go_num, HO3.out, HK3.out⟩
              case measure => simp [intOf]; omega
            · obtain rfl : q = n := by omega
              have hqi : ¬ (q : Int) < (q : Int) := by omega
              go_wp2_with fail
              go_roundw
              case rel => exact ⟨j + 1, by omega, by go_num, by
                have e : (mkRow q fun p => if p < q then combF (j + 1) (F k) T p else combF j (F k) T p) = mkRow q (combF (j + 1) (F k) T) := mkRow_congr fun p hp => if_pos hp
                rw [e] at hO; exact hO, hkq⟩
              case measure => simp [intOf]; omega
        · obtain rfl : j = c := by omega
          have hji : ¬ (j : Int) < (j : Int) := by omega
          have hseen : Seen wr (.slice (some ⟨B, 0, none⟩) n n) (bys (comb j n (F k) T)) := hOj.seen
          have hconv := run_string_seen (P := Tryd.prog) 42 5 9 Tryd.underlying42 Tryd.underlying5 Tryd.underlying9 hseen
          have hs9 := hk1.size
          have hown2 := owns_turn (hi := B) HOWN.out HLO.out hk1 (by omega)
          have hb5 : Below w.heap.size w wr := hk1.base hbw1 (by omega) (by omega)
          clear hOj hseen
          go_wp2_with (at_builtin; refine wpList_append1 rfl _ _ _ rfl w.heap.size 9 _ _ Tryd.underlying24 infoStr rfl _ k _ rfl (hown2.alloc _) wr.heap.size (.string (str (comb j n (F k) T))) rfl ?c1 rfl ?c2 ?c3 ?c4 ?_)
          case c2 => omega
          case c4 => first | omega | (simp; omega)
          intro v' w' hown' hg' _
          have hb' : Below w.heap.size w w' := below_append (hb5.alloc (by omega) _) (hown2.alloc _) hg' (Nat.le_refl _) (by simp; omega)
          have hown3 : w'.ownsRow w.heap.size 9 1 v' (k + 1) (strs (rowsT (k + 1) j n F T)) := by
            rw [rowsT_succ, strs_append]; exact hown'
          clear hown' hg'
          go_wp2_with fail
          go_roundw
          case rel => exact ⟨k + 1, by omega, by go_num, hown3, hb'⟩
          case measure => simp [intOf]; omega
    · obtain rfl : k = r := by omega
      have hki : ¬ (k : Int) < (k : Int) := by omega
      go_wp2_with fail
      go_ret
      exact ⟨_, rfl, OwnStrs.of_made (by simpa using hown), TurnIn.of_below hb⟩

end Go.Proofs.YtipmfebnjmobfaaDoor
