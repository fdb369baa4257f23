/- Joined texts: SpecRows, TailHeld, RowMath, Msr, MsgMath, SpecBlank, SpecFill. -/
import Derived.Test.YtjklngheehhggaaDoorBd04
import Derived.Test.YtjklngheehhggaaDoorBd03
import Derived.Test.YtjklngheehhggaaDoorBd00
import Derived.OrdersHeld
import Derived.StillTail
import Derived.Deep.RegionHeld
import Derived.Test.YtjklngheehhggaaDoorBd01
import Derived.Deep.QuietTactic
import Derived.BigQuiet
import Derived.Test.YtjklngheehhggaaDoorBd02
import Derived.Deep.OwnRows
import Derived.Deep.RegionLaw
set_option linter.unusedSimpArgs false
set_option linter.unusedVariables false
/- A matrix by texts: the model's l3Rows. -/
namespace G294
open Go Go.RowKit
/-- the texts that a matrix makes of texts -/
def rowsT (r c n : Nat) (F : Ents) (T : List (List UInt8)) : List (List UInt8) := mkM r n fun i => combF c (F i) T
@[simp] theorem rowsT_length (r c n : Nat) (F : Ents) (T : List (List UInt8)) : (rowsT r c n F T).length = r := by simp [rowsT]
theorem rowsT_succ (r c n : Nat) (F : Ents) (T : List (List UInt8)) : rowsT (r + 1) c n F T = rowsT r c n F T ++ [comb c n (F r) T] := by simp [rowsT, mkM, comb, List.range_succ]
end G294
namespace Go.Proofs.YtjklngheehhggaaDoor
open Go.RowKit G294

set_option maxRecDepth 100000 in
set_option maxHeartbeats 4000000 in
theorem l3Rows_own (r c n : Nat) (F : Ents) (T : List (List UInt8)) (vm vt : Value) (w : World) (hm : SeenM w vm (mkM r c F)) (htx : Seen w vt (strs T)) (hc : T.length = c) (hc1 : 1 ≤ c) (hcc : c ≤ 1000) (hrr : r ≤ 1000)
    (hn : ∀ j, j < c → (T.getD j []).length = n) (hn2 : n ≤ 1000) : Calls Tryd.prog 93 #[.agg #[vm], vt] w (RetStrs 9 w (rowsT r c n F T)) := by
  obtain ⟨i0, hi0, hz0, hz1, hz2⟩ := info_parts infoByte
  have hb0 : Below w.heap.size w (w.alloc (.cells #[vm] 79)) := (Below.refl _ _).alloc (Nat.le_refl _) _
  have HM := Lib.hid hm
  obtain ⟨A0, cp0, rfl, hl0, hm0⟩ := hm.len
  rw [mkM_length] at hl0 HM hb0 ⊢
  obtain ⟨A', cp', rfl, hlc', hcm', hx'⟩ := htx
  rw [strs_length, hc] at hlc' hx'
  simp only [strs_length, hc]
  unfold maxLen at hm0 hcm'
  obtain ⟨b', off', rfl, hbl', hcell'⟩ := hx' (by omega)
  have htxt : ∀ j, j < c → w.cell? ⟨b', off' + j, none⟩ = some (.string (str (T.getD j []))) := fun j hj => by
    have := hcell' j _ (strs_get T j (by omega))
    rw [this]; simp [List.getD, show j < T.length by omega]
  have hc0 : w.cell? ⟨b', off', none⟩ = some (.string (str (T.getD 0 []))) := by
    have := htxt 0 (by omega)
    rwa [Nat.add_zero] at this
  have hs0 : (str (T.getD 0 [])).size = n := by rw [str_size]; exact hn 0 (by omega)
  generalize T.getD 0 [] = t0 at hc0 hs0
  have HTXT := Lib.hid htxt
  have HNN := Lib.hid hn
  clear hcell' hx' htxt hn hc hm
  go_enter Tryd.func93, Tryd.ntmps93
  go_wp2_with fail
  go_loopw [5, 15] (fun o i wr => ∃ k : Nat, k ≤ r ∧ i = .int .i64 k ∧ wr.ownsRow w.heap.size 9 1 o k (strs (rowsT k c n F T)) ∧ Below w.heap.size w wr)
    (fun _ i _ => r - (intOf i).toNat)
  case atStart => exact ⟨0, Nat.zero_le _, rfl, World.ownsRow_nil _ _ _ _, hb0⟩
  case round =>
    obtain ⟨k, hk, rfl, hown, hb⟩ := hrel
    clear hb0
    by_cases hlt : k < r
    · have hki : (k : Int) < (r : Int) := by omega
      obtain ⟨bb, off, c9, A1, c1, hvv, _, hbb, hcx, hc9, hsr⟩ := (HM.out.below hb).rowF k hlt
      simp only [Value.slice.injEq] at hvv
      obtain ⟨rfl, z9, rfl⟩ := hvv
      obtain ⟨A2, c2, hA2, hcc2, hcm2, hx2⟩ := hsr
      simp only [bys_length, mkRow_length] at hA2 hcc2 hx2
      obtain ⟨b, off2, hA3, hb2, hrow⟩ := hx2 (by omega)
      simp only [Value.slice.injEq] at hA2
      obtain ⟨rfl, _, rfl⟩ := hA2
      subst hA3
      have hcw0 : wr.cell? ⟨b', off', none⟩ = some (.string (str t0)) := (hb.cell (p := ⟨b', off', none⟩) hbl').trans hc0
      have HROW : Hid (∀ j, j < c → wr.cell? ⟨b, off2 + j, none⟩ = some (.int .u8 ((F k j).toNat : Int))) := fun j hj => by
        have := hrow j _ (bys_get _ j (by simpa using hj))
        rwa [mkRow_get] at this
      have hbs := hb.size
      unfold maxLen at hc9
      clear hrow hx2 z9
      go_wp2_with (at_make; refine wpList_make_full _ rfl _ _ _ rfl wr.heap.size _ i0 _ 1 Tryd.underlying22 hi0 hz0 hz1 _ _ _ _ n rfl rfl rfl rfl ?b2 ?b3 ?b4 ?_)
      case b2 => rw [hz2]; omega
      case b3 => unfold maxLen; omega
      case b4 => exact Nat.le_refl _
      intro w1 hown1 hg1
      rw [toList_madeCells_one] at hown1
      have k1 : TurnIn 0 0 wr w1 := TurnIn.of_grown hg1 (by simp)
      have hs1 : wr.heap.size < w1.heap.size := (hown1.lt wr.heap.size rfl).2
      have hO : OwnBytes 5 w1 wr.heap.size (wr.heap.size + 1) (.slice (some ⟨wr.heap.size, 0, none⟩) n n) (mkRow n (combF 0 (F k) T)) := by
        refine ⟨?_, hs1, fun g e => by simp [Value.ownBlock] at e; omega⟩
        rw [mkRow_length, bys_zero n (combF 0 (F k) T) (fun _ _ => rfl)]; exact hown1
      obtain ⟨B, hB⟩ : ∃ B, B = wr.heap.size := ⟨_, rfl⟩
      have hown' := owns_turn0 hown k1
      have hlo : ∀ g, Value.ownBlock u5 = some g → g < B := fun g e => by rw [hB]; exact (hown.lt g e).2
      have hbw1 : Below w.heap.size w w1 := k1.base hb (by omega) (by omega)
      have hrb : ∀ j, j < c → w1.cell? ⟨b, off2 + j, none⟩ = some (.int .u8 ((F k j).toNat : Int)) := fun j hj => cell_turn k1 (HROW.out j hj) (by omega)
      have hbB : b < B := by omega
      have hwB : w.heap.size ≤ B := by omega
      rw [← hB] at hO hs1 ⊢
      have HRB := Lib.hid hrb
      have HOWN := Lib.hid hown'
      have HLO := Lib.hid hlo
      clear hg1 hown1 hown hown' hlo hrb hcx hB k1 HROW hb hcw0 hb2
      go_wp2_with fail
      go_loopw [26] (fun i wq => ∃ j : Nat, j ≤ c ∧ i = .int .i64 j ∧ OwnBytes 5 wq B (B + 1) (.slice (some ⟨B, 0, none⟩) n n) (mkRow n (combF j (F k) T)) ∧ TurnIn B (B + 1) w1 wq)
        (fun i _ => c - (intOf i).toNat)
      case atStart => exact ⟨0, Nat.zero_le _, rfl, hO, ⟨rfl, rfl, rfl, Nat.le_refl _, fun _ _ _ => rfl⟩⟩
      case round =>
        obtain ⟨j, hj, rfl, hOj, hk1⟩ := hrel
        clear hO
        by_cases hltj : j < c
        · have hji : (j : Int) < (c : Int) := by omega
          have hcr : wr.cell? ⟨b, off2 + j, none⟩ = some (.int .u8 ((F k j).toNat : Int)) := (World.cell?_of_block (hk1.block b (by omega) (by omega))).trans (HRB.out j hltj)
          have hO2 : OwnBytes 5 wr B (B + 1) (.slice (some ⟨B, 0, none⟩) n n) (mkRow n fun p => if p < 0 then combF (j + 1) (F k) T p else combF j (F k) T p) := by simpa using hOj
          have hst : (str (T.getD j [])).size = n := by rw [str_size]; exact HNN.out j hltj
          have HE : Hid (∀ p, ent T j p = (T.getD j []).getD p 0) := fun p => rfl
          have hct0 := HTXT.out j hltj
          generalize T.getD j [] = tj at hct0 hst HE
          have hs9 := hk1.size
          clear hOj
          go_wp2_with fail
          go_loopw [33] (fun i wq => ∃ q : Nat, q ≤ n ∧ i = .int .i64 q ∧ OwnBytes 5 wq B (B + 1) (.slice (some ⟨B, 0, none⟩) n n) (mkRow n fun p => if p < q then combF (j + 1) (F k) T p else combF j (F k) T p) ∧ TurnIn B (B + 1) w1 wq)
            (fun i _ => n - (intOf i).toNat)
          case atStart => exact ⟨0, Nat.zero_le _, rfl, hO2, hk1⟩
          case round =>
            obtain ⟨q, hq, rfl, hO, hkq⟩ := hrel
            clear hO2 hcr hk1
            by_cases hlq : q < n
            · have hqi : (q : Int) < (n : Int) := by omega
              have hcs := hO.cellAt (k := q) (by simpa using hlq)
              have hfr := hO.frozenAt q
              rw [mkRow_getD _ _ _ hlq, if_neg (by omega)] at hcs
              have hct : wr.cell? ⟨b', off' + j, none⟩ = some (.string (str tj)) := (World.cell?_of_block (hkq.block b' (by omega) (by omega))).trans ((hbw1.cell (p := ⟨b', off' + j, none⟩) hbl').trans hct0)
              obtain ⟨y, hy⟩ : ∃ y, y = tj.getD q 0 := ⟨_, rfl⟩
              have hsg := str_get tj q (by omega)
              rw [← hy] at hsg
              have HY : Hid (ent T j q = y) := (HE.out q).trans hy.symm
              have HC := Lib.hid (stilly (l1Times_u8 (F k j) y wr.drew))
              have hxor : bits BinOp.xor IntKind.u8 ((combF j (F k) T q).toNat : Int) ((gmul (F k j) y).toNat : Int) = ((combF (j + 1) (F k) T q).toNat : Int) := by
                rw [xor_u8, combF_succ, HY.out]
              have HO3 := Lib.hid (hO.store (q := q) (x := combF (j + 1) (F k) T q) (by simp) (comb_step n j q (F k) T))
              have hk3 : TurnIn B (B + 1) w1 (wr.setCell ⟨B, q, none⟩ (.int .u8 ((combF (j + 1) (F k) T q).toNat : Int))) := turn_trans hkq (turn_setCell wr B q _) (by omega)
              have HK3 : Hid (TurnIn B (B + 1) w1 (wr.setCell ⟨B, q, none⟩ (.int .u8 ((combF (j + 1) (F k) T q).toNat : Int))).drew) := ⟨hk3.os, hk3.tape, hk3.output, hk3.size, hk3.block⟩
              clear hy hk3
              go_wp2_with fail
              refine wp_region_still_tail 14 (by kernel_rfl) (by kernel_rfl) ?_
              simp only [List.take_succ_cons, List.take_zero, List.drop_succ_cons, List.drop_zero]
              repeat (first | still_step | still_call (HC.out))
              refine wpStill_nil ?_
              go_wp2_with fail
              go_roundw
              case rel => exact ⟨q + 1, by omega, by go_num, HO3.out, HK3.out⟩
              case measure => simp [intOf]; omega
            · obtain rfl : q = n := by omega
              have hqi : ¬ (q : Int) < (q : Int) := by omega
              go_wp2_with fail
              go_roundw
              case rel => exact ⟨j + 1, by omega, by go_num, by
                have e : (mkRow q fun p => if p < q then combF (j + 1) (F k) T p else combF j (F k) T p) = mkRow q (combF (j + 1) (F k) T) := mkRow_congr fun p hp => if_pos hp
                rw [e] at hO; exact hO, hkq⟩
              case measure => simp [intOf]; omega
        · obtain rfl : j = c := by omega
          have hji : ¬ (j : Int) < (j : Int) := by omega
          have hseen : Seen wr (.slice (some ⟨B, 0, none⟩) n n) (bys (comb j n (F k) T)) := hOj.seen
          have hconv := run_string_seen (P := Tryd.prog) 22 5 9 Tryd.underlying22 Tryd.underlying5 Tryd.underlying9 hseen
          have hs9 := hk1.size
          have hown2 := owns_turn (hi := B) HOWN.out HLO.out hk1 (by omega)
          have hb5 : Below w.heap.size w wr := hk1.base hbw1 (by omega) (by omega)
          clear hOj hseen
          go_wp2_with (at_builtin; refine wpList_append1 rfl _ _ _ rfl w.heap.size 9 _ _ Tryd.underlying23 infoStr rfl _ k _ rfl (hown2.alloc _) wr.heap.size (.string (str (comb j n (F k) T))) rfl ?c1 rfl ?c2 ?c3 ?c4 ?_)
          case c2 => omega
          case c4 => first | omega | (simp; omega)
          intro v' w' hown' hg' _
          have hb' : Below w.heap.size w w' := below_append (hb5.alloc (by omega) _) (hown2.alloc _) hg' (Nat.le_refl _) (by simp; omega)
          have hown3 : w'.ownsRow w.heap.size 9 1 v' (k + 1) (strs (rowsT (k + 1) j n F T)) := by
            rw [rowsT_succ, strs_append]; exact hown'
          clear hown' hg'
          go_wp2_with fail
          go_roundw
          case rel => exact ⟨k + 1, by omega, by go_num, hown3, hb'⟩
          case measure => simp [intOf]; omega
    · obtain rfl : k = r := by omega
      have hki : ¬ (k : Int) < (k : Int) := by omega
      go_wp2_with fail
      go_ret
      exact ⟨_, rfl, OwnStrs.of_made (by simpa using hown), TurnIn.of_below hb⟩

end Go.Proofs.YtjklngheehhggaaDoor

/- Regions that draw their order and end in one operation that waits for all others: behind it nothing is asked of the cells that the loads read. -/
namespace G294
open Go Go.RowKit
section
variable {P : Program} {md : Region.Mode} {ops : Array Oper} {Q : Exit → Act → World → Prop} {S : World → Prop} {L : Nat}
/-- whatever comes up next; behind each operation but the last, L, S holds -/
def wpAnyT (P : Program) (md : Region.Mode) (ops : Array Oper) (Q : Exit → Act → World → Prop) (S : World → Prop) (L : Nat) : Nat → Array Bool → Act → World → Prop
  | 0, listed, a, w => Region.ready md ops listed = [] ∧ Q .normal a w
  | fuel + 1, listed, a, w =>
    (Region.ready md ops listed = [] → Q .normal a w) ∧
    ∀ i ∈ Region.ready md ops listed, wpOp P ops Q i (fun a' w' => (i ≠ L → S w') ∧ wpAnyT P md ops Q S L fuel (listed.setIfInBounds i true) a' w') a w
theorem wpAny_of_T : ∀ (fuel : Nat) (listed : Array Bool) (a : Act) (w : World), wpAnyT P md ops Q S L fuel listed a w → wpAny P md ops Q fuel listed a w
  | 0, _, _, _, h => h
  | fuel + 1, _, _, _, h => ⟨h.1, fun i hi => wpOp_mono (fun a' w' h' => wpAny_of_T fuel _ a' w' h'.2) (h.2 i hi)⟩
theorem not_ready {i j : Nat} {listed : Array Bool} (hw : Region.waitsFor md ops j i = true) (hi : i ∈ Region.ready md ops listed) : j ∉ Region.ready md ops listed := fun hj => by
  obtain ⟨oj, hoj, e, he, hb, hon⟩ := Region.waitsFor_spec hw
  obtain ⟨_, oj', hoj', hall⟩ := mem_ready.1 hj
  obtain rfl : oj' = oj := Option.some.inj (hoj'.symm.trans hoj)
  have h1 := hall e he hb
  have h0 := (mem_ready.1 hi).1
  rw [hon] at h1
  rcases Nat.lt_or_ge i listed.size with h' | h'
  · simp [h'] at h0 h1; rw [h0] at h1; cases h1
  · simp [Array.getElem?_eq_none h'] at h1
theorem wpAnyT_first {i : Nat} {oi : Oper} {v : Value} (hi : ops[i]? = some oi) (hsel : ∀ (j : Nat) (o : Oper) cs b, ops[j]? = some o → o.op ≠ .select cs b)
    (hQ : ∀ c a w, Q (.panic c) (a.put oi.dst v) w → Q (.panic c) a w) (hwl : Region.waitsFor md ops L i = true) :
    ∀ (fuel : Nat) (listed : Array Bool) (a : Act) (w : World),
      (∀ j oj, ops[j]? = some oj → j ≠ i → listed.getD j true = false → (∀ e ∈ oj.after, Region.binds md e = true → e.on ≠ i) → oi.apart ops oj = true) →
      i ∈ Region.ready md ops listed → YieldsIf P ops S oi v a → S w →
      wpAnyT P md ops Q S L fuel (listed.setIfInBounds i true) (a.put oi.dst v) w → wpAnyT P md ops Q S L (fuel + 1) listed a w := by
  intro fuel
  induction fuel with
  | zero =>
    intro listed a w _ hr hy hS H
    refine ⟨fun h => (by rw [h] at hr; cases hr), fun j hj => ?_⟩
    by_cases hji : j = i
    · subst hji; exact hy.wpOp hi hS ⟨fun _ => hS, H⟩
    · have h5 := ready_mono hj hji
      rw [H.1] at h5
      cases h5
  | succ fuel ih =>
    intro listed a w hfree hr hy hS H
    refine ⟨fun h => (by rw [h] at hr; cases hr), fun j hj => ?_⟩
    by_cases hji : j = i
    · subst hji; exact hy.wpOp hi hS ⟨fun _ => hS, H⟩
    · have hjL : j ≠ L := fun e => not_ready hwl hr (e ▸ hj)
      obtain ⟨hjun, oj, hoj, hall⟩ := mem_ready.1 hj
      have hnot : ∀ e ∈ oj.after, Region.binds md e = true → e.on ≠ i := fun e he hb heq => by
        have h1 := hall e he hb
        have h0 := (mem_ready.1 hr).1
        rw [heq] at h1
        rcases Nat.lt_or_ge i listed.size with h' | h'
        · simp [h'] at h0 h1; rw [h0] at h1; cases h1
        · simp [Array.getElem?_eq_none h'] at h1
      have h2 := wpOp_putIf hoj (hfree j oj hoj hji hjun hnot) (fun cs b => hsel i oi cs b hi) (fun cs b => hsel j oj cs b hoj) hQ hy (H.2 j (ready_mono hj hji))
      refine wpOp_mono (fun a' w' h3 => ⟨h3.2.1, ih (listed.setIfInBounds j true) a' w' (fun k ok hk hki hun hno => ?_) (ready_mono hr (Ne.symm hji)) h3.1 (h3.2.1 hjL) ?_⟩) h2
      · refine hfree k ok hk hki ?_ hno
        by_cases hjk : j = k
        · subst hjk; exact hjun
        · rw [getD_set_ne true hjk] at hun; exact hun
      · rw [Array.setIfInBounds_comm _ _ hji]
        exact h3.2.2
theorem wpAnyT_take {i : Nat} {oi : Oper} {v : Value} {fuel : Nat} {listed : Array Bool} {a : Act} {w : World} (hi : ops[i]? = some oi)
    (hs : Region.noSelect ops = true) (hf : Region.free md ops listed i = true) (hr : (Region.ready md ops listed).contains i = true) (hwl : Region.waitsFor md ops L i = true)
    (hQ : ∀ c a w, Q (.panic c) (a.put oi.dst v) w → Q (.panic c) a w) (hy : YieldsIf P ops S oi v a) (hS : S w)
    (h : wpAnyT P md ops Q S L fuel (listed.setIfInBounds i true) (a.put oi.dst v) w) : wpAnyT P md ops Q S L (fuel + 1) listed a w :=
  wpAnyT_first hi (Region.noSelect_spec hs) hQ hwl fuel listed a w (Region.free_spec hi hf) (by simpa using hr) hy hS h
/-- one operation alone may come up -/
theorem wpAnyT_one {i : Nat} {o : Oper} {fuel : Nat} {listed : Array Bool} {a : Act} {w : World} (ho : ops[i]? = some o) (hr : Region.ready md ops listed = [i])
    (h : ∀ K' : Act → World → Prop, Shut (∀ a w, (i ≠ L → S w) → wpAnyT P md ops Q S L fuel (listed.setIfInBounds i true) a w → K' a w) → if Region.wanted o (yielded ops a.tmps) = true then Oper.wp P o a w K' Q else K' (a.put o.dst undef) w) :
    wpAnyT P md ops Q S L (fuel + 1) listed a w :=
  ⟨fun h0 => (by rw [hr] at h0; cases h0), fun j hj => by
    rw [hr] at hj
    obtain rfl : j = i := by simpa using hj
    exact wpOp_step ho (fun K' hK => h K' (fun a w hS hW => hK a w ⟨hS, hW⟩))⟩
theorem wpAnyT_done {listed : Array Bool} {a : Act} {w : World} (hr : Region.ready md ops listed = []) (h : Q .normal a w) : ∀ fuel, wpAnyT P md ops Q S L fuel listed a w
  | 0 => ⟨hr, h⟩
  | _ + 1 => ⟨fun _ => h, by rw [hr]; simp⟩
theorem wp_region_tail {id : Nat} {a : Act} {w : World} (S : World → Prop) (L : Nat) (hm : P.follows .mixedOrders = true)
    (h : wpAnyT P .any ops Q S L ops.size (Array.replicate ops.size false) a w.drew) : (Code.region id ops true).wp P Q a w :=
  wp_region_any hm (wpAny_of_T _ _ _ _ h)
end
end G294

/- The row of a node of a regenerating code. -/
namespace G294
def powB (x : UInt8) (e : Nat) : UInt8 := UInt8.ofNat (gp x.toNat e)
theorem powB_toNat (x : UInt8) (e : Nat) : (powB x e).toNat = gp x.toNat e := by
  unfold powB; rw [UInt8.toNat_ofNat']; exact Nat.mod_eq_of_lt (gp_lt x.toNat_lt e)
theorem gmul_one_left (x : UInt8) : gmul 1 x = x := by
  apply UInt8.toNat_inj.1
  rw [gmul_toNat]
  exact gm_one_left x.toNat_lt
/-- a factor times the first powers of x -/
def pRow (x : UInt8) (a : Nat) (f : UInt8) : List UInt8 := mkRow a fun e => gmul f (powB x e)
def pRows (x : UInt8) (a : Nat) (fs : List UInt8) : List UInt8 := (fs.map (pRow x a)).flatten
/-- the number of a node and its factor -/
def nodX (i : Nat) : UInt8 := powB 3 (i + 1)
def nodF (i a : Nat) : UInt8 := powB (nodX i) a
def shortL (a i : Nat) : List UInt8 := mkRow a (powB (nodX i))
def rowL (a i : Nat) : List UInt8 := shortL a i ++ scaleL (nodF i a) (shortL a i)
@[simp] theorem shortL_length (a i : Nat) : (shortL a i).length = a := by simp [shortL]
@[simp] theorem rowL_length (a i : Nat) : (rowL a i).length = a + a := by simp [rowL, scaleL]
theorem pRow_one (x : UInt8) (a : Nat) : pRow x a 1 = mkRow a (powB x) := mkRow_congr fun j _ => gmul_one_left _
theorem pRow_scale (x : UInt8) (a : Nat) (f : UInt8) : pRow x a f = scaleL f (mkRow a (powB x)) := by simp [pRow, scaleL, mkRow]
theorem pRows_one (a i : Nat) : pRows (nodX i) a [1] = shortL a i := by simp [pRows, pRow_one, shortL]
theorem pRows_two (a i : Nat) : pRows (nodX i) a [1, nodF i a] = rowL a i := by
  have e : pRows (nodX i) a [1, nodF i a] = pRow (nodX i) a 1 ++ pRow (nodX i) a (nodF i a) := by simp [pRows]
  rw [e, pRow_one, pRow_scale]; rfl
theorem pRows_take (x : UInt8) (a : Nat) (fs : List UInt8) (k : Nat) (hk : k < fs.length) : pRows x a (fs.take (k + 1)) = pRows x a (fs.take k) ++ pRow x a fs[k] := by
  rw [List.take_succ_eq_append_getElem hk]; simp only [pRows, List.map_append, List.flatten_append]; simp
theorem pRows_length (x : UInt8) (a : Nat) (fs : List UInt8) : (pRows x a fs).length = fs.length * a := by
  induction fs with
  | nil => simp [pRows]
  | cons f fs ih =>
    have e : pRows x a (f :: fs) = pRow x a f ++ pRows x a fs := by simp [pRows]
    rw [e, List.length_append, ih, List.length_cons, Nat.succ_mul]
    simp [pRow]; omega
theorem mkRow_succ (n : Nat) (f : Nat → UInt8) : mkRow (n + 1) f = mkRow n f ++ [f n] := by simp [mkRow, List.range_succ]
end G294

/- Regenerating codes: which are valid, and their sizes, on both sides; the conversion of a code. -/
namespace G294
open Go Go.RowKit
/-- a code of n nodes, k of which suffice -/
abbrev msrV (n k : Int) : Value := .agg #[.int .i64 n, .int .i64 k]
def msrOk (n k : Int) : Bool := decide (2 ≤ k ∧ k ≤ 4) && decide (2 * k - 1 ≤ n ∧ n ≤ 14)
theorem msrOk_b {n k : Int} (h : msrOk n k = true) : (2 ≤ k ∧ k ≤ 4) ∧ 2 * k - 1 ≤ n ∧ n ≤ 14 := by simpa [msrOk] using h
theorem msrOk_k {n k : Int} (h : msrOk n k = true) : k = 2 ∨ k = 3 ∨ k = 4 := by have := msrOk_b h; omega
def msrA (n k : Int) : Int := if msrOk n k = true then k - 1 else 0
def msrD (n k : Int) : Int := if msrOk n k = true then 2 * (k - 1) else 0
def msrB (n k : Int) : Int := if msrOk n k = true then k * (k - 1) else 0
theorem msrA_yes {n k : Int} (h : msrOk n k = true) : msrA n k = k - 1 := if_pos h
theorem msrD_yes {n k : Int} (h : msrOk n k = true) : msrD n k = 2 * (k - 1) := if_pos h
theorem msrB_yes {n k : Int} (h : msrOk n k = true) : msrB n k = k * (k - 1) := if_pos h
theorem msrA_no {n k : Int} (h : msrOk n k = false) : msrA n k = 0 := if_neg (by rw [h]; simp)
theorem msrD_no {n k : Int} (h : msrOk n k = false) : msrD n k = 0 := if_neg (by rw [h]; simp)
theorem msrB_no {n k : Int} (h : msrOk n k = false) : msrB n k = 0 := if_neg (by rw [h]; simp)
theorem alloc_duo0 (w : World) (x y : Value) (T : TypeId) : (w.alloc (.cells #[x, y] T)).cell? ⟨w.heap.size, 0, none⟩ = some x := by simp
theorem alloc_duo1 (w : World) (x y : Value) (T : TypeId) : (w.alloc (.cells #[x, y] T)).cell? ⟨w.heap.size, 1, none⟩ = some y := by simp
def RetSizes (w : World) (a d b : Int) (ok : Bool) (e : Ending) (w' : World) : Prop := e = .returned (.tuple #[.int .i64 a, .int .i64 d, .int .i64 b, .bool ok]) ∧ TurnIn 0 0 w w'
end G294
namespace Go.Proofs.YtjklngheehhggaaDoor
open Go.RowKit G294

end Go.Proofs.YtjklngheehhggaaDoor

/- The message matrix of a regenerating code: two symmetric matrices, each filled from a triangle of bytes. -/
namespace G294
/-- where row p of a triangle of side a begins -/
def off (a : Nat) : Nat → Nat
  | 0 => 0
  | p + 1 => off a p + (a - p)
def tix (a p q : Nat) : Nat := off a p + (q - p)
theorem off_mono (a p : Nat) : ∀ d, off a p ≤ off a (p + d)
  | 0 => Nat.le_refl _
  | d + 1 => Nat.le_trans (off_mono a p d) (Nat.le_add_right _ _)
theorem tix_lt {a p q : Nat} (h1 : p ≤ q) (h2 : q < a) : tix a p q < off a a := by
  have h := off_mono a (p + 1) (a - (p + 1))
  rw [show p + 1 + (a - (p + 1)) = a by omega] at h
  have : off a (p + 1) = off a p + (a - p) := rfl
  unfold tix
  omega
/-- the entry of the symmetric matrix whose triangle lies in l from b on -/
def symF (a : Nat) (l : List UInt8) (b : Nat) : Ents := fun i j => l.getD (b + tix a (min i j) (max i j)) 0
/-- .. after the rows before p, and in row p the columns before q -/
def symP (a : Nat) (l : List UInt8) (b p q : Nat) : Ents := fun i j => if min i j < p ∨ (min i j = p ∧ max i j < q) then symF a l b i j else 0
theorem symP_zero (a : Nat) (l : List UInt8) (b i j : Nat) : symP a l b 0 0 i j = 0 := by unfold symP; rw [if_neg (by omega)]
theorem symP_row {a : Nat} {l : List UInt8} {b p i j : Nat} (hi : i < a) (hj : j < a) : symP a l b p a i j = symP a l b (p + 1) (p + 1) i j := by
  unfold symP
  by_cases h : min i j < p ∨ (min i j = p ∧ max i j < a)
  · rw [if_pos h, if_pos (by omega)]
  · rw [if_neg h, if_neg (by omega)]
theorem symP_all {a : Nat} {l : List UInt8} {b i j : Nat} (hi : i < a) (hj : j < a) : symP a l b a a i j = symF a l b i j := by
  unfold symP; rw [if_pos (by omega)]
theorem symP_step (a : Nat) (l : List UInt8) (b p q : Nat) (hpq : p ≤ q) (i j : Nat) :
    (if i = q ∧ j = p then l.getD (b + tix a p q) 0 else if i = p ∧ j = q then l.getD (b + tix a p q) 0 else symP a l b p q i j) = symP a l b p (q + 1) i j := by
  by_cases h1 : i = q ∧ j = p
  · obtain ⟨rfl, rfl⟩ := h1
    rw [if_pos ⟨rfl, rfl⟩]
    unfold symP
    rw [if_pos (by omega)]
    unfold symF
    rw [show min i j = j by omega, show max i j = i by omega]
  · rw [if_neg h1]
    by_cases h2 : i = p ∧ j = q
    · obtain ⟨rfl, rfl⟩ := h2
      rw [if_pos ⟨rfl, rfl⟩]
      unfold symP
      rw [if_pos (by omega)]
      unfold symF
      rw [show min i j = i by omega, show max i j = j by omega]
    · rw [if_neg h2]
      unfold symP
      by_cases h : min i j < p ∨ (min i j = p ∧ max i j < q)
      · rw [if_pos h, if_pos (by omega)]
      · rw [if_neg h, if_neg (by omega)]
theorem tix_next {a p q : Nat} (h : p ≤ q) : tix a p (q + 1) = tix a p q + 1 := by unfold tix; omega
theorem tix_row {a p : Nat} (h : p < a) : tix a p a = tix a (p + 1) (p + 1) := by
  show off a p + (a - p) = off a p + (a - p) + (p + 1 - (p + 1)); omega
theorem tix_diag (a : Nat) : tix a 0 0 = 0 := rfl
theorem off_three {a : Nat} (h1 : 1 ≤ a) (h2 : a ≤ 3) : 2 * off a a = (a + 1) * a := by
  have : a = 1 ∨ a = 2 ∨ a = 3 := by omega
  rcases this with rfl | rfl | rfl <;> rfl
/-- the message matrix -/
def msgF (a : Nat) (l : List UInt8) : Ents := fun i j => if i < a then symF a l 0 i j else symF a l (off a a) (i - a) j
def msgM (a : Nat) (l : List UInt8) : Mat := mkM (a + a) a (msgF a l)
theorem msgM_eq (a : Nat) (l : List UInt8) : mkM a a (symF a (l.take (off a a)) 0) ++ mkM a a (symF a (l.drop (off a a)) 0) = msgM a l := by
  apply List.ext_getElem
  · simp [msgM]
  · intro i h1 h2
    have h2' : i < a + a := by simpa [msgM] using h2
    rcases Nat.lt_or_ge i a with h | h
    · rw [List.getElem_append_left (by simpa using h)]
      simp only [msgM, mkM, List.getElem_map, List.getElem_range]
      refine mkRow_congr fun j hj => ?_
      have := tix_lt (a := a) (p := min i j) (q := max i j) (by omega) (by omega)
      simp only [msgF, if_pos h, symF, Nat.zero_add]
      simp [List.getD, List.getElem?_take, this]
    · rw [List.getElem_append_right (by simpa using h)]
      simp only [msgM, mkM, List.getElem_map, List.getElem_range, List.length_map, List.length_range]
      refine mkRow_congr fun j hj => ?_
      simp only [msgF, if_neg (Nat.not_lt.2 h), symF, Nat.zero_add]
      simp [List.getD, List.getElem?_drop]
/-- .. the model's way to it: h halves, of the next one the rows before p, and in row p the columns before q -/
def msgP (a : Nat) (l : List UInt8) (h p q : Nat) : Ents := fun i j => if i < h * a then msgF a l i j else if i < h * a + a then symP a l (h * off a a) p q (i - h * a) j else 0
theorem msgP_zero (a : Nat) (l : List UInt8) (i j : Nat) : msgP a l 0 0 0 i j = 0 := by
  unfold msgP; rw [if_neg (by omega)]; split
  · exact symP_zero _ _ _ _ _
  · rfl
theorem msgP_row {a : Nat} {l : List UInt8} {h p i j : Nat} (hj : j < a) : msgP a l h p a i j = msgP a l h (p + 1) (p + 1) i j := by
  unfold msgP
  by_cases h1 : i < h * a
  · rw [if_pos h1, if_pos h1]
  · rw [if_neg h1, if_neg h1]
    by_cases h2 : i < h * a + a
    · rw [if_pos h2, if_pos h2]; exact symP_row (by omega) hj
    · rw [if_neg h2, if_neg h2]
theorem msgP_half {a : Nat} {l : List UInt8} {h i j : Nat} (hh : h = 0 ∨ h = 1) (hj : j < a) : msgP a l h a a i j = msgP a l (h + 1) 0 0 i j := by
  have e : (h + 1) * a = h * a + a := by rw [Nat.succ_mul]
  unfold msgP
  rw [e]
  by_cases h1 : i < h * a
  · rw [if_pos h1, if_pos (by omega)]
  · rw [if_neg h1]
    by_cases h2 : i < h * a + a
    · rw [if_pos h2, if_pos h2, symP_all (by omega) hj]
      rcases hh with rfl | rfl
      · simp only [Nat.zero_mul, Nat.sub_zero] at *
        simp only [msgF]; rw [if_pos (by omega)]
      · simp only [Nat.one_mul] at *
        simp only [msgF]; rw [if_neg (by omega)]
    · rw [if_neg h2, if_neg h2]; split
      · exact (symP_zero _ _ _ _ _).symm
      · rfl
theorem msgP_all {a : Nat} {l : List UInt8} {i j : Nat} (hi : i < a + a) : msgP a l 2 0 0 i j = msgF a l i j := by
  unfold msgP; rw [if_pos (by omega)]
theorem msgP_step (a : Nat) (l : List UInt8) (h p q : Nat) (hpq : p ≤ q) (hq : q < a) (i j : Nat) :
    (if i = h * a + q ∧ j = p then l.getD (h * off a a + tix a p q) 0 else if i = h * a + p ∧ j = q then l.getD (h * off a a + tix a p q) 0 else msgP a l h p q i j) = msgP a l h p (q + 1) i j := by
  have hs := symP_step a l (h * off a a) p q hpq (i - h * a) j
  unfold msgP
  by_cases h1 : i < h * a
  · rw [if_neg (by omega), if_neg (by omega), if_pos h1, if_pos h1]
  · rw [if_neg h1, if_neg h1]
    by_cases h2 : i < h * a + a
    · rw [if_pos h2, if_pos h2, ← hs]
      by_cases h3 : i = h * a + q ∧ j = p
      · rw [if_pos h3, if_pos (by omega)]
      · rw [if_neg h3, if_neg (show ¬ (i - h * a = q ∧ j = p) by omega)]
        by_cases h4 : i = h * a + p ∧ j = q
        · rw [if_pos h4, if_pos (by omega)]
        · rw [if_neg h4, if_neg (show ¬ (i - h * a = p ∧ j = q) by omega)]
    · rw [if_neg h2, if_neg h2, if_neg (by omega), if_neg (by omega)]
end G294

/- The model's l2Blank. -/
namespace Go.Proofs.YtjklngheehhggaaDoor
open Go.RowKit G294

set_option maxRecDepth 100000 in
set_option maxHeartbeats 2000000 in
theorem l2Blank_own (r c : Nat) (w : World) (hr : r ≤ 1000) (hc : c ≤ 1000) : Calls Tryd.prog 165 #[.int .i64 r, .int .i64 c] w (RetMat 5 22 w (mkM r c fun _ _ => 0)) := by
  have hmk := run_make_row' (P := Tryd.prog) 22 5 (.int .u8 0) 1 Tryd.underlying22 infoElemB rfl .i64 .i64 c (by omega) (by omega)
  have hb0 : Below w.heap.size w (w.alloc (.cells #[.slice none 0 0] 79)) := (Below.refl _ _).alloc (Nat.le_refl _) _
  have hb2 : Below w.heap.size w ((w.alloc (.cells #[.slice none 0 0] 79)).alloc (.cells #[.slice none 0 0] 79)) := hb0.alloc (by simp) _
  have hsz : ((w.alloc (.cells #[.slice none 0 0] 79)).alloc (.cells #[.slice none 0 0] 79)).heap.size = w.heap.size + 2 := by simp
  have hM0 : OwnM 5 22 ((w.alloc (.cells #[.slice none 0 0] 79)).alloc (.cells #[.slice none 0 0] 79)) (w.heap.size + 2) (w.heap.size + 2) (.slice none 0 0) (mkM 0 c fun _ _ => 0) [] := hsz ▸ OwnM.nil _ _ _ _
  have HSZ := Lib.hid hsz
  clear hsz
  go_enter Tryd.func165, Tryd.ntmps165
  go_wp2_with fail
  go_loopw [6] (fun i wr => ∃ (k : Nat) (o : Value) (vs : List Value), k ≤ r ∧ i = .int .i64 k ∧ OwnM 5 22 wr (w.heap.size + 2) wr.heap.size o (mkM k c fun _ _ => 0) vs ∧
      wr.cell? ⟨w.heap.size + 1, 0, none⟩ = some o ∧ wr.frozen? ⟨w.heap.size + 1, 0, none⟩ = false ∧ wr.cell? ⟨w.heap.size, 0, none⟩ = some (.slice none 0 0) ∧ wr.frozen? ⟨w.heap.size, 0, none⟩ = false ∧ Below w.heap.size w wr ∧ w.heap.size + 2 ≤ wr.heap.size)
    (fun i _ => r - (intOf i).toNat)
  case atStart => exact ⟨0, .slice none 0 0, [], Nat.zero_le _, rfl, hM0.wider (Nat.le_refl _) (by rw [HSZ.out]; exact Nat.le_refl _) (Nat.le_refl _), by simp, by simp, by simp, by simp, hb2, by rw [HSZ.out]; exact Nat.le_refl _⟩
  case round =>
    obtain ⟨k, o, vs, hk, rfl, hM, hc1, hf1, hc0, hf0, hb, hsz⟩ := hrel
    clear hM0 hb2 hb0
    by_cases hlt : k < r
    · have hki : (k : Int) < (r : Int) := by omega
      have hrow : wr.ownsRow (w.heap.size + 2) 22 1 o k vs := by simpa using hM.row
      obtain ⟨A, n, cp, rfl⟩ := hM.isSlice
      have kW : TurnIn 0 0 wr ((wr.alloc (.cells (madeCells #[.int .u8 0] c) 5)).alloc (.cells #[.slice (some ⟨wr.heap.size, 0, none⟩) c c] 22)).drew := TurnIn.of_below (((Below.refl _ _).alloc (Nat.le_refl _) _).alloc (by simp) _).drew
      have hob : ∀ g, (Value.slice A n cp).ownBlock = some g → w.heap.size + 2 ≤ g := fun g e => (hrow.lt g e).1
      have hne1 : (Value.slice A n cp).ownBlock ≠ some (w.heap.size + 1) := fun e => by have := hob _ e; omega
      have hne0 : (Value.slice A n cp).ownBlock ≠ some w.heap.size := fun e => by have := hob _ e; omega
      have HK := Lib.hid kW
      have hcA : (wr.alloc (.cells (madeCells #[.int .u8 0] c) 5)).cell? ⟨w.heap.size + 1, 0, none⟩ = some (.slice A n cp) := cell_turn (TurnIn.of_below ((Below.refl _ _).alloc (Nat.le_refl _) _)) hc1 (by omega)
      have hcB : ((wr.alloc (.cells (madeCells #[.int .u8 0] c) 5)).alloc (.cells #[.slice (some ⟨wr.heap.size, 0, none⟩) c c] 22)).cell? ⟨w.heap.size + 1, 0, none⟩ = some (.slice A n cp) := cell_turn kW hc1 (by omega)
      clear kW
      go_wp2_with fail
      go_region_law ((refine step_append1 (by rfl) _ _ _ (by rfl) (w.heap.size + 2) 22 _ _ Tryd.underlying77 infoRowB rfl _ k vs (by rfl) (((hrow.alloc _).alloc _).drew) (wr.heap.size + 1) (.slice (some ⟨wr.heap.size, 0, none⟩) c c) (by rfl) (by simp) (by rfl) (by omega) (by omega) (by simp; omega) ?_; intro v' w1 hown1 hg1 hv1; obtain ⟨A', n', cp', rfl⟩ := own_isSlice hown1; have hc1' := (cell_past HK.out hg1 hne1 (by omega) 0).trans hc1; have hf1' := (frozen_past HK.out hg1 hne1 (by omega) 0).trans hf1))
      all_goals
        have hR : OwnBytes 5 ((wr.alloc (.cells (madeCells #[.int .u8 0] c) 5)).alloc (.cells #[.slice (some ⟨wr.heap.size, 0, none⟩) c c] 22)).drew wr.heap.size (wr.heap.size + 1) (.slice (some ⟨wr.heap.size, 0, none⟩) c c) (mkRow c fun _ => 0) := by
          refine ⟨?_, by simp, fun g e => by simp [Value.ownBlock] at e; omega⟩
          rw [bys_zero c _ (fun _ _ => rfl), mkRow_length, ← toList_madeCells_one]
          exact ((World.ownsRow_lit wr (madeCells #[.int .u8 0] c) c (Nat.le_refl _) (by unfold maxLen; omega) (by simp [madeCells])).alloc _).drew
        have hM5 := (((hM.push HK.out hR (Nat.le_refl _) (by omega) (by simpa using hown1) hg1 hv1).keep (turn_setCell w1 (w.heap.size + 1) 0 (.slice A' n' cp')) (by omega)).congr (mkM_succ k c fun _ _ => 0).symm)
        have hw1 : wr.heap.size ≤ w1.heap.size := by have := hg1.size; have := HK.out.size; omega
        have hb5 : Below w.heap.size w (w1.setCell ⟨w.heap.size + 1, 0, none⟩ (.slice A' n' cp')) := Below.setCell (TurnIn.base (TurnIn.of_grown (lo := w.heap.size) (hi := w1.heap.size) hg1 (fun g e => ⟨by have := hob g e; omega, by have := (hM.out g e); omega⟩)) (HK.out.base hb (by omega) (by omega)) (by have := HK.out.size; omega) (by omega)) (Nat.le_succ _) _
        have hq0 := ((cell_past HK.out hg1 hne0 (by omega) 0).trans hc0)
        have hq0f := ((frozen_past HK.out hg1 hne0 (by omega) 0).trans hf0)
        clear hR hown1 hg1 hv1 hM hrow hob hcA hcB hb hc0 hf0
        go_wp2_with fail
        go_roundw
        case rel => exact ⟨k + 1, .slice A' n' cp', vs ++ [.slice (some ⟨wr.heap.size, 0, none⟩) c c], by omega, by go_num, by simpa using hM5, World.cell?_setCell_same _ _ _ hc1', by simp [hf1'], (cell_set_other w1 _ _ _ (by omega)).trans hq0, (frozen_set_other w1 _ _ _ (by omega)).trans hq0f, hb5, by simp; omega⟩
        case measure => simp [intOf]; omega
    · obtain rfl : k = r := by omega
      have hki : ¬ (k : Int) < (k : Int) := by omega
      obtain ⟨A, n, cp, rfl⟩ := hM.isSlice
      go_wp2_with fail
      refine bodyPost_ret (v := .agg #[.slice A n cp]) (by simp [results, Tryd.results165, go_sem, hc0]) rfl ?_
      have kk := turn_setCell wr w.heap.size 0 (.slice A n cp)
      refine ⟨_, vs, rfl, (hM.keep kk (by omega)).wider (by omega) (by simp) (by simp), TurnIn.of_below (hb.setCell (Nat.le_refl _) _)⟩
end Go.Proofs.YtjklngheehhggaaDoor

/- The model's identity, Vandermonde and Cauchy matrices. -/
namespace G294
open Go Go.RowKit
/-- what a function that fills a matrix keeps: its rows, the variable that holds them, the variable of its result, and old memory -/
structure Fill (E EE : TypeId) (w wr : World) (B : Nat) (v : Value) (L : Mat) (vs : List Value) : Prop where
  own : OwnM E EE wr (w.heap.size + 1) B v L vs
  var : wr.cell? ⟨B, 0, none⟩ = some v
  res : wr.cell? ⟨w.heap.size, 0, none⟩ = some (.slice none 0 0)
  resf : wr.frozen? ⟨w.heap.size, 0, none⟩ = false
  old : Below w.heap.size w wr
  size : B < wr.heap.size
  lo : w.heap.size < B
theorem Fill.drewN {E EE : TypeId} {w wr : World} {B : Nat} {v : Value} {L : Mat} {vs : List Value} (h : Fill E EE w wr B v L vs) (q : Nat) : Fill E EE w (wr.drewN q) B v L vs :=
  ⟨h.own.drewN q, h.var, h.res, h.resf, below_drewN h.old q, h.size, h.lo⟩
theorem Fill.congr {E EE : TypeId} {w wr : World} {B : Nat} {v : Value} {L L' : Mat} {vs : List Value} (h : Fill E EE w wr B v L vs) (e : L = L') : Fill E EE w wr B v L' vs := e ▸ h
theorem Fill.storeF {E EE : TypeId} {w wr : World} {B r c k j bb m cap' : Nat} {F : Ents} {x : UInt8} {v : Value} {vs : List Value} (h : Fill E EE w wr B v (mkM r c F) vs) (hk : k < r) (hu : vs[k]? = some (.slice (some ⟨bb, 0, none⟩) m cap')) :
    Fill E EE w (wr.setCell ⟨bb, j, none⟩ (.int .u8 (x.toNat : Int))) B v (mkM r c fun i jj => if i = k ∧ jj = j then x else F i jj) vs := by
  have ho := h.own.rows k _ hu
  have h1 := (ho.1.lt bb rfl).1
  have h2 := ho.2.2 bb rfl
  have hlo := h.lo
  exact ⟨h.own.storeF hk hu, (cell_set_other wr _ _ _ (by omega)).trans h.var, (cell_set_other wr _ _ _ (by omega)).trans h.res, (frozen_set_other wr _ _ _ (by omega)).trans h.resf, h.old.setCell (show w.heap.size ≤ bb by omega) _, by simpa using h.size, hlo⟩
theorem Fill.start {E EE : TypeId} {w w1 w2 : World} {v : Value} {L : Mat} {vs : List Value} {t : TypeId} (hw2 : w2 = w1.alloc (.cells #[v] t)) (hM : OwnM E EE w1 (w.heap.size + 1) w1.heap.size v L vs) (hc : w1.cell? ⟨w.heap.size, 0, none⟩ = some (.slice none 0 0)) (hf : w1.frozen? ⟨w.heap.size, 0, none⟩ = false)
    (hb : Below w.heap.size w w1) (hs : w.heap.size + 1 ≤ w1.heap.size) : Fill E EE w w2 w1.heap.size v L vs := by
  subst hw2
  have kA : TurnIn 0 0 w1 (w1.alloc (.cells #[v] t)) := TurnIn.of_below ((Below.refl _ _).alloc (Nat.le_refl _) _)
  exact ⟨hM.keep kA (by omega), by simp, cell_turn kA hc (by omega), frozen_turn kA hf (by omega), hb.alloc (by omega) _, by simp, by omega⟩
/-- the rows are stored into the result -/
theorem Fill.finish {E EE : TypeId} {w wr : World} {B : Nat} {v : Value} {L : Mat} {vs : List Value} (h : Fill E EE w wr B v L vs) :
    RetMat E EE w L (.returned (.agg #[v])) (wr.setCell ⟨w.heap.size, 0, none⟩ v) := by
  have kk := turn_setCell wr w.heap.size 0 v
  have hs := h.size
  exact ⟨v, vs, rfl, (h.own.keep kk (by omega)).wider (by omega) (by simp; omega) (by simp), TurnIn.of_below (h.old.setCell (Nat.le_refl _) _)⟩
end G294
namespace Go.Proofs.YtjklngheehhggaaDoor
open Go.RowKit G294

set_option maxRecDepth 100000 in
set_option maxHeartbeats 2000000 in
theorem l2Identity_own (n : Nat) (w : World) (h1 : 1 ≤ n) (hn : n ≤ 1000) : Calls Tryd.prog 158 #[.int .i64 n] w (RetMat 5 22 w (mkM n n idF)) := by
  have hb0 : Below w.heap.size w (w.alloc (.cells #[.slice none 0 0] 79)) := (Below.refl _ _).alloc (Nat.le_refl _) _
  go_enter Tryd.func158, Tryd.ntmps158
  go_wp2_with fail
  refine (l2Blank_own n n _ hn hn).mono ?_
  rintro e w1 ⟨v, vs, rfl, hM, ht⟩
  obtain ⟨g, cp, rfl, hg1, hg2, hg3, hg4⟩ := hM.sliceF h1
  have hc0 := cell_turn ht (B := w.heap.size) (o := 0) (x := .slice none 0 0) (by simp) (by simp)
  have hf0 := frozen_turn ht (B := w.heap.size) (o := 0) (x := false) (by simp) (by simp)
  have hb1 := ht.base hb0 (by simp) (by omega)
  have hs1 := ht.size
  rw [World.size_alloc] at hs1 hM hg1
  have hF := Fill.start (t := 79) rfl (hM.congr (L' := mkM n n fun i j => if i = j ∧ i < 0 then 1 else 0) (mkM_congr fun i j _ _ => by simp)) hc0 hf0 hb1 hs1
  have HF0 := Lib.hid hF
  clear hM ht hb0 hb1 hc0 hf0 hF
  unfold maxLen at hg4
  have hcB : (w1.alloc (.cells #[.slice (some ⟨g, 0, none⟩) n cp] 79)).cell? ⟨w1.heap.size, 0, none⟩ = some (.slice (some ⟨g, 0, none⟩) n cp) := by simp
  go_wp2_with fail
  generalize w1.alloc (.cells #[.slice (some ⟨g, 0, none⟩) n cp] 79) = w2 at *
  generalize w1.heap.size = B at *
  go_loopw [11] (fun i wr => ∃ k : Nat, k ≤ n ∧ i = .int .i64 k ∧ Hid (Fill 5 22 w wr B (.slice (some ⟨g, 0, none⟩) n cp) (mkM n n fun i j => if i = j ∧ i < k then 1 else 0) vs))
    (fun i _ => n - (intOf i).toNat)
  case atStart => exact ⟨0, Nat.zero_le _, rfl, HF0.out⟩
  case round =>
    obtain ⟨k, hk, rfl, HF⟩ := hrel
    have hvar := HF.out.var
    clear hcB
    by_cases hlt : k < n
    · have hki : (k : Int) < (n : Int) := by omega
      obtain ⟨bb, cp2, hu, e1, e2, e3, e4, e5, hfz, hcell⟩ := HF.out.own.rowF k hlt (by omega)
      have hco := HF.out.own.cellAt hu
      have hcx := hcell k hlt
      have hfr := hfz k
      unfold maxLen at e5
      have HF2 := Lib.hid ((HF.out.storeF (j := k) (x := 1) hlt hu).congr (L' := mkM n n fun i j => if i = j ∧ i < k + 1 then 1 else 0) (mkM_congr fun i j _ _ => by
        by_cases a1 : i = k
        · subst a1
          by_cases a2 : j = i
          · subst a2; simp
          · have a3 : ¬ i = j := fun e => a2 e.symm
            simp [a2, a3]
        · by_cases a2 : i = j
          · subst a2
            by_cases a3 : i < k
            · simp [a1, a3]; omega
            · simp [a1, a3]; omega
          · simp [a1, a2]))
      clear hcell hfz hu e3
      go_wp2_with fail
      go_roundw
      case rel => exact ⟨k + 1, by omega, by go_num, HF2.out⟩
      case measure => simp [intOf]; omega
    · obtain rfl : k = n := by omega
      have hki : ¬ (k : Int) < (k : Int) := by omega
      have hc0 := HF.out.res
      have hf0 := HF.out.resf
      go_wp2_with fail
      refine bodyPost_ret (v := .agg #[.slice (some ⟨g, 0, none⟩) k cp]) (by simp [results, Tryd.results158, go_sem, hc0]) rfl ?_
      exact (HF.out.congr (L' := mkM k k idF) (mkM_congr fun i j hi _ => by simp [idF, hi])).finish

set_option maxRecDepth 100000 in
set_option maxHeartbeats 2000000 in
theorem l2Cauchy_own (r c : Nat) (w : World) (h1 : 1 ≤ r) (h2 : 1 ≤ c) (hr : r ≤ 16) (hc : c ≤ 16) : Calls Tryd.prog 174 #[.int .i64 r, .int .i64 c] w (RetMat 5 22 w (mkM r c (cauF c))) := by
  have hb0 : Below w.heap.size w (w.alloc (.cells #[.slice none 0 0] 79)) := (Below.refl _ _).alloc (Nat.le_refl _) _
  go_enter Tryd.func174, Tryd.ntmps174
  go_wp2_with fail
  refine (l2Blank_own r c _ (by omega) (by omega)).mono ?_
  rintro e w1 ⟨v, vs, rfl, hM, ht⟩
  obtain ⟨g, cp, rfl, hg1, hg2, hg3, hg4⟩ := hM.sliceF h1
  have hc0 := cell_turn ht (B := w.heap.size) (o := 0) (x := .slice none 0 0) (by simp) (by simp)
  have hf0 := frozen_turn ht (B := w.heap.size) (o := 0) (x := false) (by simp) (by simp)
  have hb1 := ht.base hb0 (by simp) (by omega)
  have hs1 := ht.size
  rw [World.size_alloc] at hs1 hM hg1
  have hF := Fill.start (t := 79) rfl (hM.congr (L' := mkM r c fun i j => if i < 0 then (cauF c) i j else 0) (mkM_congr fun i j _ _ => by simp)) hc0 hf0 hb1 hs1
  have HF0 := Lib.hid hF
  clear hM ht hb0 hb1 hc0 hf0 hF
  unfold maxLen at hg4
  have hcB : (w1.alloc (.cells #[.slice (some ⟨g, 0, none⟩) r cp] 79)).cell? ⟨w1.heap.size, 0, none⟩ = some (.slice (some ⟨g, 0, none⟩) r cp) := by simp
  go_wp2_with fail
  generalize w1.alloc (.cells #[.slice (some ⟨g, 0, none⟩) r cp] 79) = w2 at *
  generalize w1.heap.size = B at *
  go_loopw [14] (fun i wr => ∃ k : Nat, k ≤ r ∧ i = .int .i64 k ∧ Hid (Fill 5 22 w wr B (.slice (some ⟨g, 0, none⟩) r cp) (mkM r c fun i j => if i < k then (cauF c) i j else 0) vs))
    (fun i _ => r - (intOf i).toNat)
  case atStart => exact ⟨0, Nat.zero_le _, rfl, HF0.out⟩
  case round =>
    obtain ⟨k, hk, rfl, HF⟩ := hrel
    have hvar := HF.out.var
    clear hcB
    by_cases hlt : k < r
    · have hki : (k : Int) < (r : Int) := by omega
      obtain ⟨bb, cp2, hu, e1, e2, e3, e4, e5, hfz, hcell⟩ := HF.out.own.rowF k hlt (by omega)
      have hco := HF.out.own.cellAt hu
      have HU := Lib.hid hu
      have HF1 := Lib.hid (HF.out.congr (L' := mkM r c fun i j => if i < k ∨ (i = k ∧ j < 0) then (cauF c) i j else 0) (mkM_congr fun i j _ _ => by simp))
      unfold maxLen at e5
      clear hcell hfz hu e3
      go_wp2_with fail
      go_loopw [23] (fun i wq => ∃ m : Nat, m ≤ c ∧ i = .int .i64 m ∧ Hid (Fill 5 22 w wq B (.slice (some ⟨g, 0, none⟩) r cp) (mkM r c fun i j => if i < k ∨ (i = k ∧ j < m) then (cauF c) i j else 0) vs))
        (fun i _ => c - (intOf i).toNat)
      case atStart => exact ⟨0, Nat.zero_le _, rfl, HF1.out⟩
      case round =>
        obtain ⟨m, hm, rfl, HF⟩ := hrel
        have hvar := HF.out.var
        clear hco hvar
        by_cases hlm : m < c
        · have hmi : (m : Int) < (c : Int) := by omega
          have hk0 : (0 : Int) ≤ (k : Int) := Int.natCast_nonneg _
          have hm0 : (0 : Int) ≤ (m : Int) := Int.natCast_nonneg _
          have hvar := HF.out.var
          have hco := HF.out.own.cellAt HU.out
          obtain ⟨bb', cp2', hu', e1', e2', e3', e4', e5', hfz, hcell⟩ := HF.out.own.rowF k hlt (by omega)
          obtain ⟨rfl, rfl⟩ : bb = bb' ∧ cp2 = cp2' := by simpa using HU.out.symm.trans hu'
          have hcx := hcell m hlm
          have hfr := hfz m
          have hlo := HF.out.lo
          have n1 : B ≠ bb := by omega
          have n1' : bb ≠ B := by omega
          have n2 : g ≠ bb := fun e => e3' (by rw [e]; rfl)
          have n2' : bb ≠ g := fun e => n2 e.symm
          have HF2 := Lib.hid (fun q => ((HF.out.drewN q).storeF (j := m) (x := (cauF c) k m) hlt HU.out).congr (L' := mkM r c fun i j => if i < k ∨ (i = k ∧ j < m + 1) then (cauF c) i j else 0) (mkM_congr fun i j _ _ => by
            by_cases a1 : i = k
            · subst a1
              by_cases a2 : j = m
              · subst a2; simp
              · by_cases a3 : j < m
                · simp [a2, a3]; omega
                · simp [a2, a3]; omega
            · simp [a1]))
          have HV := Lib.hid (cau_u8 c k m (by omega) (by omega))
          have hxx := xor_lt (a := c + k) (b := m) (by omega) (by omega)
          have hsum : IntKind.i64.wrap ((c : Int) + (k : Int)) = (c : Int) + (k : Int) := IntWalk.i64_in _ (by omega)
          have hxor : bits BinOp.xor IntKind.i64 ((c : Int) + (k : Int)) (m : Int) = (((c + k) ^^^ m : Nat) : Int) := by rw [← Int.natCast_add]; exact xor_i64 (by omega) (by omega)
          have hwx : IntKind.u8.wrap (((c + k) ^^^ m : Nat) : Int) = (((c + k) ^^^ m : Nat) : Int) := IntWalk.u8_in _ (by omega)
          clear hcell hfz hu' e3' e5'
          go_wp2_with fail
          go_region_held3 (fun w' => w'.cell? ⟨B, 0, none⟩ = some (.slice (some ⟨g, 0, none⟩) r cp) ∧ w'.cell? ⟨g, k, none⟩ = some (.slice (some ⟨bb, 0, none⟩) c cp2))
            (first | go_keep)
            ((go_at_call 194; refine (l1Inverse_any ((c + k) ^^^ m) (by omega) _).mono ?_; rintro e w' ⟨rfl, rfl⟩))
          go_wp2_with fail
          go_roundw
          case rel => exact ⟨m + 1, by omega, by go_num, by rw [← HV.out]; exact HF2.out 1⟩
          case measure => simp [intOf]; omega
        · obtain rfl : m = c := by omega
          have hmi : ¬ (m : Int) < (m : Int) := by omega
          go_wp2_with fail
          go_roundw
          case rel => exact ⟨k + 1, by omega, by go_num, HF.out.congr (mkM_congr fun i j _ hj => by
            by_cases a1 : i < k
            · simp [a1]; omega
            · by_cases a2 : i = k
              · subst a2; simp [hj]
              · simp [a1, a2]; omega)⟩
          case measure => simp [intOf]; omega
    · obtain rfl : k = r := by omega
      have hki : ¬ (k : Int) < (k : Int) := by omega
      have hc0 := HF.out.res
      have hf0 := HF.out.resf
      go_wp2_with fail
      refine bodyPost_ret (v := .agg #[.slice (some ⟨g, 0, none⟩) k cp]) (by simp [results, Tryd.results174, go_sem, hc0]) rfl ?_
      exact (HF.out.congr (L' := mkM k c (cauF c)) (mkM_congr fun i j hi _ => by simp [hi])).finish

end Go.Proofs.YtjklngheehhggaaDoor
