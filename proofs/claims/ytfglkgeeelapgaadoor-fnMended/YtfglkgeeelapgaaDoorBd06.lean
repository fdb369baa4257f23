/- Joined texts: TailHeld, SpecFill, VecPair, VecAdd, VecScale, FieldOps, Elim. -/
import Derived.Test.YtfglkgeeelapgaaDoorBd00
import Derived.OrdersHeld
import Derived.StillTail
import Derived.Deep.RegionHeld
import Derived.Test.YtfglkgeeelapgaaDoorBd05
import Derived.Test.YtfglkgeeelapgaaDoorBd03
import Derived.Deep.RegionHeld3
import Derived.Test.YtfglkgeeelapgaaDoorBd04
import Derived.Test.YtfglkgeeelapgaaDoorBd02
import Derived.BigRegion
import Derived.StillTailTactics
set_option linter.unusedSimpArgs false
set_option linter.unusedVariables false
/- Regions that draw their order and end in one operation that waits for all others: behind it nothing is asked of the cells that the loads read. -/
namespace G294
open Go Go.RowKit
section
variable {P : Program} {md : Region.Mode} {ops : Array Oper} {Q : Exit → Act → World → Prop} {S : World → Prop} {L : Nat}
/-- whatever comes up next; behind each operation but the last, L, S holds -/
def wpAnyT (P : Program) (md : Region.Mode) (ops : Array Oper) (Q : Exit → Act → World → Prop) (S : World → Prop) (L : Nat) : Nat → Array Bool → Act → World → Prop
  | 0, listed, a, w => Region.ready md ops listed = [] ∧ Q .normal a w
  | fuel + 1, listed, a, w =>
    (Region.ready md ops listed = [] → Q .normal a w) ∧
    ∀ i ∈ Region.ready md ops listed, wpOp P ops Q i (fun a' w' => (i ≠ L → S w') ∧ wpAnyT P md ops Q S L fuel (listed.setIfInBounds i true) a' w') a w
theorem wpAny_of_T : ∀ (fuel : Nat) (listed : Array Bool) (a : Act) (w : World), wpAnyT P md ops Q S L fuel listed a w → wpAny P md ops Q fuel listed a w
  | 0, _, _, _, h => h
  | fuel + 1, _, _, _, h => ⟨h.1, fun i hi => wpOp_mono (fun a' w' h' => wpAny_of_T fuel _ a' w' h'.2) (h.2 i hi)⟩
theorem not_ready {i j : Nat} {listed : Array Bool} (hw : Region.waitsFor md ops j i = true) (hi : i ∈ Region.ready md ops listed) : j ∉ Region.ready md ops listed := fun hj => by
  obtain ⟨oj, hoj, e, he, hb, hon⟩ := Region.waitsFor_spec hw
  obtain ⟨_, oj', hoj', hall⟩ := mem_ready.1 hj
  obtain rfl : oj' = oj := Option.some.inj (hoj'.symm.trans hoj)
  have h1 := hall e he hb
  have h0 := (mem_ready.1 hi).1
  rw [hon] at h1
  rcases Nat.lt_or_ge i listed.size with h' | h'
  · simp [h'] at h0 h1; rw [h0] at h1; cases h1
  · simp [Array.getElem?_eq_none h'] at h1
theorem wpAnyT_first {i : Nat} {oi : Oper} {v : Value} (hi : ops[i]? = some oi) (hsel : ∀ (j : Nat) (o : Oper) cs b, ops[j]? = some o → o.op ≠ .select cs b)
    (hQ : ∀ c a w, Q (.panic c) (a.put oi.dst v) w → Q (.panic c) a w) (hwl : Region.waitsFor md ops L i = true) :
    ∀ (fuel : Nat) (listed : Array Bool) (a : Act) (w : World),
      (∀ j oj, ops[j]? = some oj → j ≠ i → listed.getD j true = false → (∀ e ∈ oj.after, Region.binds md e = true → e.on ≠ i) → oi.apart ops oj = true) →
      i ∈ Region.ready md ops listed → YieldsIf P ops S oi v a → S w →
      wpAnyT P md ops Q S L fuel (listed.setIfInBounds i true) (a.put oi.dst v) w → wpAnyT P md ops Q S L (fuel + 1) listed a w := by
  intro fuel
  induction fuel with
  | zero =>
    intro listed a w _ hr hy hS H
    refine ⟨fun h => (by rw [h] at hr; cases hr), fun j hj => ?_⟩
    by_cases hji : j = i
    · subst hji; exact hy.wpOp hi hS ⟨fun _ => hS, H⟩
    · have h5 := ready_mono hj hji
      rw [H.1] at h5
      cases h5
  | succ fuel ih =>
    intro listed a w hfree hr hy hS H
    refine ⟨fun h => (by rw [h] at hr; cases hr), fun j hj => ?_⟩
    by_cases hji : j = i
    · subst hji; exact hy.wpOp hi hS ⟨fun _ => hS, H⟩
    · have hjL : j ≠ L := fun e => not_ready hwl hr (e ▸ hj)
      obtain ⟨hjun, oj, hoj, hall⟩ := mem_ready.1 hj
      have hnot : ∀ e ∈ oj.after, Region.binds md e = true → e.on ≠ i := fun e he hb heq => by
        have h1 := hall e he hb
        have h0 := (mem_ready.1 hr).1
        rw [heq] at h1
        rcases Nat.lt_or_ge i listed.size with h' | h'
        · simp [h'] at h0 h1; rw [h0] at h1; cases h1
        · simp [Array.getElem?_eq_none h'] at h1
      have h2 := wpOp_putIf hoj (hfree j oj hoj hji hjun hnot) (fun cs b => hsel i oi cs b hi) (fun cs b => hsel j oj cs b hoj) hQ hy (H.2 j (ready_mono hj hji))
      refine wpOp_mono (fun a' w' h3 => ⟨h3.2.1, ih (listed.setIfInBounds j true) a' w' (fun k ok hk hki hun hno => ?_) (ready_mono hr (Ne.symm hji)) h3.1 (h3.2.1 hjL) ?_⟩) h2
      · refine hfree k ok hk hki ?_ hno
        by_cases hjk : j = k
        · subst hjk; exact hjun
        · rw [getD_set_ne true hjk] at hun; exact hun
      · rw [Array.setIfInBounds_comm _ _ hji]
        exact h3.2.2
theorem wpAnyT_take {i : Nat} {oi : Oper} {v : Value} {fuel : Nat} {listed : Array Bool} {a : Act} {w : World} (hi : ops[i]? = some oi)
    (hs : Region.noSelect ops = true) (hf : Region.free md ops listed i = true) (hr : (Region.ready md ops listed).contains i = true) (hwl : Region.waitsFor md ops L i = true)
    (hQ : ∀ c a w, Q (.panic c) (a.put oi.dst v) w → Q (.panic c) a w) (hy : YieldsIf P ops S oi v a) (hS : S w)
    (h : wpAnyT P md ops Q S L fuel (listed.setIfInBounds i true) (a.put oi.dst v) w) : wpAnyT P md ops Q S L (fuel + 1) listed a w :=
  wpAnyT_first hi (Region.noSelect_spec hs) hQ hwl fuel listed a w (Region.free_spec hi hf) (by simpa using hr) hy hS h
/-- one operation alone may come up -/
theorem wpAnyT_one {i : Nat} {o : Oper} {fuel : Nat} {listed : Array Bool} {a : Act} {w : World} (ho : ops[i]? = some o) (hr : Region.ready md ops listed = [i])
    (h : ∀ K' : Act → World → Prop, Shut (∀ a w, (i ≠ L → S w) → wpAnyT P md ops Q S L fuel (listed.setIfInBounds i true) a w → K' a w) → if Region.wanted o (yielded ops a.tmps) = true then Oper.wp P o a w K' Q else K' (a.put o.dst undef) w) :
    wpAnyT P md ops Q S L (fuel + 1) listed a w :=
  ⟨fun h0 => (by rw [hr] at h0; cases h0), fun j hj => by
    rw [hr] at hj
    obtain rfl : j = i := by simpa using hj
    exact wpOp_step ho (fun K' hK => h K' (fun a w hS hW => hK a w ⟨hS, hW⟩))⟩
theorem wpAnyT_done {listed : Array Bool} {a : Act} {w : World} (hr : Region.ready md ops listed = []) (h : Q .normal a w) : ∀ fuel, wpAnyT P md ops Q S L fuel listed a w
  | 0 => ⟨hr, h⟩
  | _ + 1 => ⟨fun _ => h, by rw [hr]; simp⟩
theorem wp_region_tail {id : Nat} {a : Act} {w : World} (S : World → Prop) (L : Nat) (hm : P.follows .mixedOrders = true)
    (h : wpAnyT P .any ops Q S L ops.size (Array.replicate ops.size false) a w.drew) : (Code.region id ops true).wp P Q a w :=
  wp_region_any hm (wpAny_of_T _ _ _ _ h)
end
end G294

/- The model's identity, Vandermonde and Cauchy matrices. -/
namespace G294
open Go Go.RowKit
/-- what a function that fills a matrix keeps: its rows, the variable that holds them, the variable of its result, and old memory -/
structure Fill (E EE : TypeId) (w wr : World) (B : Nat) (v : Value) (L : Mat) (vs : List Value) : Prop where
  own : OwnM E EE wr (w.heap.size + 1) B v L vs
  var : wr.cell? ⟨B, 0, none⟩ = some v
  res : wr.cell? ⟨w.heap.size, 0, none⟩ = some (.slice none 0 0)
  resf : wr.frozen? ⟨w.heap.size, 0, none⟩ = false
  old : Below w.heap.size w wr
  size : B < wr.heap.size
  lo : w.heap.size < B
theorem Fill.drewN {E EE : TypeId} {w wr : World} {B : Nat} {v : Value} {L : Mat} {vs : List Value} (h : Fill E EE w wr B v L vs) (q : Nat) : Fill E EE w (wr.drewN q) B v L vs :=
  ⟨h.own.drewN q, h.var, h.res, h.resf, below_drewN h.old q, h.size, h.lo⟩
theorem Fill.congr {E EE : TypeId} {w wr : World} {B : Nat} {v : Value} {L L' : Mat} {vs : List Value} (h : Fill E EE w wr B v L vs) (e : L = L') : Fill E EE w wr B v L' vs := e ▸ h
theorem Fill.storeF {E EE : TypeId} {w wr : World} {B r c k j bb m cap' : Nat} {F : Ents} {x : UInt8} {v : Value} {vs : List Value} (h : Fill E EE w wr B v (mkM r c F) vs) (hk : k < r) (hu : vs[k]? = some (.slice (some ⟨bb, 0, none⟩) m cap')) :
    Fill E EE w (wr.setCell ⟨bb, j, none⟩ (.int .u8 (x.toNat : Int))) B v (mkM r c fun i jj => if i = k ∧ jj = j then x else F i jj) vs := by
  have ho := h.own.rows k _ hu
  have h1 := (ho.1.lt bb rfl).1
  have h2 := ho.2.2 bb rfl
  have hlo := h.lo
  exact ⟨h.own.storeF hk hu, (cell_set_other wr _ _ _ (by omega)).trans h.var, (cell_set_other wr _ _ _ (by omega)).trans h.res, (frozen_set_other wr _ _ _ (by omega)).trans h.resf, h.old.setCell (show w.heap.size ≤ bb by omega) _, by simpa using h.size, hlo⟩
theorem Fill.start {E EE : TypeId} {w w1 w2 : World} {v : Value} {L : Mat} {vs : List Value} {t : TypeId} (hw2 : w2 = w1.alloc (.cells #[v] t)) (hM : OwnM E EE w1 (w.heap.size + 1) w1.heap.size v L vs) (hc : w1.cell? ⟨w.heap.size, 0, none⟩ = some (.slice none 0 0)) (hf : w1.frozen? ⟨w.heap.size, 0, none⟩ = false)
    (hb : Below w.heap.size w w1) (hs : w.heap.size + 1 ≤ w1.heap.size) : Fill E EE w w2 w1.heap.size v L vs := by
  subst hw2
  have kA : TurnIn 0 0 w1 (w1.alloc (.cells #[v] t)) := TurnIn.of_below ((Below.refl _ _).alloc (Nat.le_refl _) _)
  exact ⟨hM.keep kA (by omega), by simp, cell_turn kA hc (by omega), frozen_turn kA hf (by omega), hb.alloc (by omega) _, by simp, by omega⟩
/-- the rows are stored into the result -/
theorem Fill.finish {E EE : TypeId} {w wr : World} {B : Nat} {v : Value} {L : Mat} {vs : List Value} (h : Fill E EE w wr B v L vs) :
    RetMat E EE w L (.returned (.agg #[v])) (wr.setCell ⟨w.heap.size, 0, none⟩ v) := by
  have kk := turn_setCell wr w.heap.size 0 v
  have hs := h.size
  exact ⟨v, vs, rfl, (h.own.keep kk (by omega)).wider (by omega) (by simp; omega) (by simp), TurnIn.of_below (h.old.setCell (Nat.le_refl _) _)⟩
end G294
namespace Go.Proofs.YtfglkgeeelapgaaDoor
open Go.RowKit G294

set_option maxRecDepth 100000 in
set_option maxHeartbeats 2000000 in
theorem l2Identity_own (n : Nat) (w : World) (h1 : 1 ≤ n) (hn : n ≤ 1000) : Calls Tryd.prog 119 #[.int .i64 n] w (RetMat 5 22 w (mkM n n idF)) := by
  have hb0 : Below w.heap.size w (w.alloc (.cells #[.slice none 0 0] 39)) := (Below.refl _ _).alloc (Nat.le_refl _) _
  go_enter Tryd.func119, Tryd.ntmps119
  go_wp2_with fail
  refine (l2Blank_own n n _ hn hn).mono ?_
  rintro e w1 ⟨v, vs, rfl, hM, ht⟩
  obtain ⟨g, cp, rfl, hg1, hg2, hg3, hg4⟩ := hM.sliceF h1
  have hc0 := cell_turn ht (B := w.heap.size) (o := 0) (x := .slice none 0 0) (by simp) (by simp)
  have hf0 := frozen_turn ht (B := w.heap.size) (o := 0) (x := false) (by simp) (by simp)
  have hb1 := ht.base hb0 (by simp) (by omega)
  have hs1 := ht.size
  rw [World.size_alloc] at hs1 hM hg1
  have hF := Fill.start (t := 39) rfl (hM.congr (L' := mkM n n fun i j => if i = j ∧ i < 0 then 1 else 0) (mkM_congr fun i j _ _ => by simp)) hc0 hf0 hb1 hs1
  have HF0 := Lib.hid hF
  clear hM ht hb0 hb1 hc0 hf0 hF
  unfold maxLen at hg4
  have hcB : (w1.alloc (.cells #[.slice (some ⟨g, 0, none⟩) n cp] 39)).cell? ⟨w1.heap.size, 0, none⟩ = some (.slice (some ⟨g, 0, none⟩) n cp) := by simp
  go_wp2_with fail
  generalize w1.alloc (.cells #[.slice (some ⟨g, 0, none⟩) n cp] 39) = w2 at *
  generalize w1.heap.size = B at *
  go_loopw [11] (fun i wr => ∃ k : Nat, k ≤ n ∧ i = .int .i64 k ∧ Hid (Fill 5 22 w wr B (.slice (some ⟨g, 0, none⟩) n cp) (mkM n n fun i j => if i = j ∧ i < k then 1 else 0) vs))
    (fun i _ => n - (intOf i).toNat)
  case atStart => exact ⟨0, Nat.zero_le _, rfl, HF0.out⟩
  case round =>
    obtain ⟨k, hk, rfl, HF⟩ := hrel
    have hvar := HF.out.var
    clear hcB
    by_cases hlt : k < n
    · have hki : (k : Int) < (n : Int) := by omega
      obtain ⟨bb, cp2, hu, e1, e2, e3, e4, e5, hfz, hcell⟩ := HF.out.own.rowF k hlt (by omega)
      have hco := HF.out.own.cellAt hu
      have hcx := hcell k hlt
      have hfr := hfz k
      unfold maxLen at e5
      have HF2 := Lib.hid ((HF.out.storeF (j := k) (x := 1) hlt hu).congr (L' := mkM n n fun i j => if i = j ∧ i < k + 1 then 1 else 0) (mkM_congr fun i j _ _ => by
        by_cases a1 : i = k
        · subst a1
          by_cases a2 : j = i
          · subst a2; simp
          · have a3 : ¬ i = j := fun e => a2 e.symm
            simp [a2, a3]
        · by_cases a2 : i = j
          · subst a2
            by_cases a3 : i < k
            · simp [a1, a3]; omega
            · simp [a1, a3]; omega
          · simp [a1, a2]))
      clear hcell hfz hu e3
      go_wp2_with fail
      go_roundw
      case rel => exact ⟨k + 1, by omega, by go_num, HF2.out⟩
      case measure => simp [intOf]; omega
    · obtain rfl : k = n := by omega
      have hki : ¬ (k : Int) < (k : Int) := by omega
      have hc0 := HF.out.res
      have hf0 := HF.out.resf
      go_wp2_with fail
      refine bodyPost_ret (v := .agg #[.slice (some ⟨g, 0, none⟩) k cp]) (by simp [results, Tryd.results119, go_sem, hc0]) rfl ?_
      exact (HF.out.congr (L' := mkM k k idF) (mkM_congr fun i j hi _ => by simp [idF, hi])).finish

end Go.Proofs.YtfglkgeeelapgaaDoor

/- goodVector and goodPair. -/
namespace Go.Proofs.YtfglkgeeelapgaaDoor
open Go.RowKit G294

end Go.Proofs.YtfglkgeeelapgaaDoor

/- Contracts of AddVectors, the program's and the model's. -/
namespace G294
theorem addL_len (l m : List UInt8) (h : l.length = m.length) : (addL l m).length = l.length := by simp [addL, h]
theorem addL_get (l m : List UInt8) (k : Nat) (h1 : k < l.length) (h2 : k < m.length) (h3 : k < (addL l m).length) : (addL l m)[k] = l[k] ^^^ m[k] := by simp [addL]
theorem addR_len (l m : List UInt8) : (addR l m).length ≤ 80 := by
  unfold addR; split
  · rename_i h; rw [addL_len l m h.2]; exact h.1
  · simp
end G294
namespace Go.Proofs.YtfglkgeeelapgaaDoor
open Go.RowKit G294

set_option maxHeartbeats 1000000 in
theorem l1Add_own (v u : Value) (l m : List UInt8) (w : World) (hv : Seen w v (bys l)) (hu : Seen w u (bys m)) (hlen : l.length = m.length) (hn : l.length ≤ 1048576) :
    Calls Tryd.prog 138 #[v, u] w (RetBytes 5 w (addL l m)) := by
  obtain ⟨A, c, rfl, hlc, hcm, hx⟩ := hv
  obtain ⟨A', c', rfl, hlc', hcm', hx'⟩ := hu
  rw [bys_length] at hlc hx hlc' hx'
  simp only [bys_length]
  unfold maxLen at hcm hcm'
  have HAL := Lib.hid (addL_len l m hlen)
  generalize hnn : l.length = n at *
  generalize hmm : m.length = n' at *
  obtain rfl : n = n' := by omega
  have HN := Lib.hid hnn
  have HM := Lib.hid hmm
  clear hnn hmm
  go_enter Tryd.func138, Tryd.ntmps138
  go_wp2_with fail
  go_loopw [5, 9] (fun o i wr => ∃ k : Nat, k ≤ n ∧ i = .int .i64 k ∧ wr.ownsRow w.heap.size 5 1 o k (bys ((addL l m).take k)) ∧ Below w.heap.size w wr)
    (fun _ i _ => n - (intOf i).toNat)
  case atStart => exact ⟨0, Nat.zero_le _, rfl, World.ownsRow_nil _ _ _ _, Below.refl _ _⟩
  case round =>
    obtain ⟨k, hk, rfl, hown, hb⟩ := hrel
    by_cases hlt : k < n
    · obtain ⟨b, off, rfl, hbl, hcell⟩ := hx (by omega)
      obtain ⟨b', off', rfl, hbl', hcell'⟩ := hx' (by omega)
      have hkl : k < l.length := by rw [HN.out]; exact hlt
      have hkm : k < m.length := by rw [HM.out]; exact hlt
      have hka : k < (addL l m).length := by rw [HAL.out]; exact hlt
      have hcx : wr.cell? ⟨b, off + k, none⟩ = some (.int .u8 ((l[k]).toNat : Int)) := (hb.cell (p := ⟨b, off + k, none⟩) hbl).trans (hcell k _ (bys_get l k hkl))
      have hcy : wr.cell? ⟨b', off' + k, none⟩ = some (.int .u8 ((m[k]).toNat : Int)) := (hb.cell (p := ⟨b', off' + k, none⟩) hbl').trans (hcell' k _ (bys_get m k hkm))
      have HX := Lib.hid (xor_u8 l[k] m[k])
      have HG := Lib.hid (addL_get l m k hkl hkm hka)
      have hbs := hb.size
      have hob : u5.ownBlock ≠ some b := fun e => by have := (hown.lt b e).1; omega
      have hob' : u5.ownBlock ≠ some b' := fun e => by have := (hown.lt b' e).1; omega
      have hk0 : (0 : Int) ≤ (k : Int) := Int.natCast_nonneg _
      clear hcell hcell' hx hx'
      have hki : (k : Int) < (n : Int) := by omega
      go_wp2_with fail
      go_region_held3 (fun w' => w'.cell? ⟨b, off + k, none⟩ = some (.int .u8 ((l[k]).toNat : Int)) ∧ w'.cell? ⟨b', off' + k, none⟩ = some (.int .u8 ((m[k]).toNat : Int)))
        (first
          | go_keep
          | (go_split_ands
             refine ⟨?_, ?_⟩
             · (rw [hg'.cell_far _ (by simp; omega) (Ne.symm hob)]; assumption)
             · (rw [hg'.cell_far _ (by simp; omega) (Ne.symm hob')]; assumption)))
        ((refine step_append1 (by rfl) _ _ _ (by rfl) w.heap.size 5 _ _ Tryd.underlying22 infoByte rfl _ k _ (by rfl) ((hown.alloc _).drew) wr.heap.size (.int .u8 (bits BinOp.xor IntKind.u8 ((l[k]).toNat : Int) ((m[k]).toNat : Int))) (by rfl) (by simp) (by rfl) (by omega) (by omega) (by have := hb.size; simp; omega) ?_; intro v' w1 hown1 hg' _))
      have hb' : Below w.heap.size w w1 := below_append ((hb.alloc hb.size _).drew) ((hown.alloc _).drew) hg' (Nat.le_refl _) (by simp; omega)
      have hown2 : w1.ownsRow w.heap.size 5 1 v' (k + 1) (bys ((addL l m).take (k + 1))) := by
        have e : (addL l m).take (k + 1) = (addL l m).take k ++ [l[k] ^^^ m[k]] := by
          rw [List.take_succ_eq_append_getElem hka, HG.out]
        rw [HX.out] at hown1
        rw [e, bys_append]; exact hown1
      clear hown1 hg' hown
      go_wp2_with fail
      go_roundw
      case rel => exact ⟨k + 1, by omega, by go_num, hown2, hb'⟩
      case measure => simp [intOf]; omega
    · obtain rfl : k = n := by omega
      have hki : ¬ (k : Int) < (k : Int) := by omega
      go_wp2_with fail
      go_ret
      refine ⟨_, rfl, OwnBytes.of_made ?_, TurnIn.of_below hb⟩
      rw [List.take_of_length_le (by rw [HAL.out]; exact Nat.le_refl _)] at hown
      simpa [HAL.out] using hown

end Go.Proofs.YtfglkgeeelapgaaDoor

/- Contracts of ScaleVector, the program's and the model's. -/
namespace Go.Proofs.YtfglkgeeelapgaaDoor
open Go.RowKit G294

set_option maxHeartbeats 400000 in
theorem l1Scale_any (a : UInt8) (v : Value) (l : List UInt8) (w : World) (hv : Seen w v (bys l)) (hn : l.length ≤ 1048576) :
    Calls Tryd.prog 137 #[.int .u8 (a.toNat : Int), v] w (Made w 5 (bys (scaleL a l))) := by
  obtain ⟨A, c, rfl, hlc, hcm, hx⟩ := hv
  rw [bys_length] at hlc hx
  simp only [bys_length]
  unfold maxLen at hcm
  generalize hnn : l.length = n at *
  have HN := Lib.hid hnn
  clear hnn
  go_enter Tryd.func137, Tryd.ntmps137
  go_wp2_with fail
  go_loopw [5, 10] (fun o i wr => ∃ k : Nat, k ≤ n ∧ i = .int .i64 k ∧ wr.ownsRow w.heap.size 5 1 o k (bys ((scaleL a l).take k)) ∧ Below w.heap.size w wr)
    (fun _ i _ => n - (intOf i).toNat)
  case atStart => exact ⟨0, Nat.zero_le _, rfl, World.ownsRow_nil _ _ _ _, Below.refl _ _⟩
  case round =>
    obtain ⟨k, hk, rfl, hown, hb⟩ := hrel
    by_cases hlt : k < n
    · obtain ⟨b, off, rfl, hbl, hcell⟩ := hx (by omega)
      have hkl : k < l.length := by rw [HN.out]; exact hlt
      have hcx : wr.cell? ⟨b, off + k, none⟩ = some (.int .u8 ((l[k]).toNat : Int)) := (hb.cell (p := ⟨b, off + k, none⟩) hbl).trans (hcell k _ (bys_get l k hkl))
      clear hcell hx
      have hki : (k : Int) < (n : Int) := by omega
      go_wp2_with fail
      refine (l1Times_u8 a l[k] _).mono ?_
      rintro e w' ⟨rfl, rfl⟩
      go_wp2_with (at_builtin; refine wpList_append1 rfl _ _ _ rfl w.heap.size 5 _ _ Tryd.underlying22 infoByte rfl _ k _ rfl (hown.alloc _) wr.heap.size (.int .u8 ((gmul a l[k]).toNat : Int)) rfl ?c1 rfl ?c2 ?c3 ?c4 ?_)
      case c1 => simp
      case c2 => omega
      case c3 => omega
      case c4 => have := hb.size; simp; omega
      intro v' w' hown' hg' _
      have hb' : Below w.heap.size w w' := below_append (hb.alloc hb.size _) (hown.alloc _) hg' (Nat.le_refl _) (by have := hb.size; simp; omega)
      have hown2 : w'.ownsRow w.heap.size 5 1 v' (k + 1) (bys ((scaleL a l).take (k + 1))) := by
        have e : (scaleL a l).take (k + 1) = (scaleL a l).take k ++ [gmul a l[k]] := by
          rw [List.take_succ_eq_append_getElem (by simp [scaleL, hkl])]; simp [scaleL]
        rw [e, bys_append]; exact hown'
      clear hown' hg'
      go_wp2_with fail
      go_roundw
      case rel => exact ⟨k + 1, by omega, by go_num, hown2, hb'⟩
      case measure => simp [intOf]; omega
    · obtain rfl : k = n := by omega
      have hki : ¬ (k : Int) < (k : Int) := by omega
      go_wp2_with fail
      go_ret
      refine ⟨_, rfl, ?_, hb⟩
      rw [List.take_of_length_le (by simp [scaleL, HN.out])] at hown
      simpa [HN.out, scaleL] using hown

theorem scaleR_len (a : UInt8) (l : List UInt8) : (scaleR a l).length ≤ 80 := by
  unfold scaleR; split
  · simpa [scaleL]
  · simp

end Go.Proofs.YtfglkgeeelapgaaDoor

/- The methods of field bytes. -/
namespace Go.Proofs.YtfglkgeeelapgaaDoor
open Go.RowKit G294

set_option maxHeartbeats 400000 in
theorem fbTimes_any (a b : UInt8) (w : World) (ht : Tab w) :
    Calls Tryd.prog 178 #[.int .u8 (a.toNat : Int), .int .u8 (b.toNat : Int)] w fun e w' => e = .returned (.int .u8 ((gmul a b).toNat : Int)) ∧ w = w' := by
  go_enter Tryd.func178, Tryd.ntmps178
  go_wp2_with fail
  refine (times_u8 a b _ ht).mono ?_
  rintro e w' ⟨rfl, rfl⟩
  go_wp2_with fail
  go_ret
  exact ⟨rfl, rfl⟩

set_option maxHeartbeats 400000 in
theorem fbPlus_any (a b : UInt8) (w : World) :
    Calls Tryd.prog 177 #[.int .u8 (a.toNat : Int), .int .u8 (b.toNat : Int)] w fun e w' => e = .returned (.int .u8 ((a ^^^ b).toNat : Int)) ∧ w = w' := by
  have HX := Lib.hid (xor_u8 a b)
  go_enter Tryd.func177, Tryd.ntmps177
  go_wp2_with fail
  go_ret
  exact ⟨by rw [← HX.out]; rfl, rfl⟩

set_option maxHeartbeats 400000 in
theorem fbInverse_any (a : UInt8) (w : World) (ht : Tab w) :
    Calls Tryd.prog 176 #[.int .u8 (a.toNat : Int)] w fun e w' => e = .returned (.int .u8 ((ginv a).toNat : Int)) ∧ w = w' := by
  have HI := Lib.hid (ginv_toNat a)
  go_enter Tryd.func176, Tryd.ntmps176
  go_wp2_with fail
  refine (inverse_any a.toNat a.toNat_lt _ ht).mono ?_
  rintro e w' ⟨rfl, rfl⟩
  go_wp2_with fail
  go_ret
  exact ⟨by rw [HI.out]; rfl, rfl⟩

theorem methTimes (x : Int) (w : World) : (method 317 143 (.int .u8 x) "loop.example/g00294/impl.times").run Tryd.prog w = .ok (178, .int .u8 x) w := by kernel_rfl

theorem methPlus (x : Int) (w : World) : (method 317 143 (.int .u8 x) "loop.example/g00294/impl.plus").run Tryd.prog w = .ok (177, .int .u8 x) w := by kernel_rfl

theorem methInverse (x : Int) (w : World) : (method 317 143 (.int .u8 x) "loop.example/g00294/impl.inverse").run Tryd.prog w = .ok (176, .int .u8 x) w := by kernel_rfl
end Go.Proofs.YtfglkgeeelapgaaDoor

/- Elimination in place: pivotBelow, scaleRow, clearColumn, eliminate. -/
namespace Go.Proofs.YtfglkgeeelapgaaDoor
open Go.RowKit G294

def pivV (o : Option Nat) : Value := match o with
  | none => .tuple #[.int .i64 0, .bool false]
  | some k => .tuple #[.int .i64 k, .bool true]

set_option maxRecDepth 100000 in
set_option maxHeartbeats 1000000 in
theorem pivotBelow_any (r c a j : Nat) (F : Ents) (v : Value) (w : World) (hs : SeenM w v (mkM r c F)) (hr1 : 1 ≤ r) (hr : r ≤ 1000) (hc : c ≤ 1000) (ha : a ≤ r) (hj : j < c) :
    Calls Tryd.prog 154 #[v, .int .i64 a, .int .i64 j] w fun e w' => e = .returned (pivV (piv F r a j)) ∧ w = w' := by
  have HS := Lib.hid hs
  obtain ⟨A, cp, hvv, _, _⟩ := hs.len
  rw [mkM_length] at hvv
  subst hvv
  clear hs
  go_enter Tryd.func154, Tryd.ntmps154
  go_wp2_with fail
  go_loop [9] (fun i => ∃ k : Nat, a ≤ k ∧ k ≤ r ∧ i = .int .i64 k ∧ Hid (∀ i, a ≤ i → i < k → F i j = 0)) (fun i => r - (intOf i).toNat)
  case atStart => exact ⟨a, Nat.le_refl _, ha, rfl, fun i h1 h2 => by omega⟩
  case round =>
    obtain ⟨k, hak, hk, rfl, HK⟩ := hrel
    by_cases hlt : k < r
    · have hki : (k : Int) < (r : Int) := by omega
      have hji : (j : Int) < (c : Int) := by omega
      obtain ⟨bb, off, cp5, b', off', c', e6, hl5, h5, h6, h7, hl6, h8⟩ := HS.out.cellF k j hlt hj
      simp only [Value.slice.injEq] at e6
      obtain ⟨rfl, z9, rfl⟩ := e6
      clear z9
      unfold maxLen at hl5 hl6
      by_cases h0 : F k j = 0
      · have hb : (((F k j).toNat : Int) != 0) = false := by rw [h0]; rfl
        have HK2 : Hid (∀ i, a ≤ i → i < k + 1 → F i j = 0) := fun i h1 h2 => by
          by_cases e : i = k
          · rw [e]; exact h0
          · exact HK.out i h1 (by omega)
        clear h0
        go_wp2_with fail
        go_round
        case rel => exact ⟨k + 1, by omega, by omega, by go_num, HK2⟩
        case measure => simp [intOf]; omega
      · have hb : (((F k j).toNat : Int) != 0) = true := by
          rw [bne_iff_ne]; intro e
          exact h0 (u8_ext (by simpa using e))
        have HP := Lib.hid (piv_some hak hlt h0 HK.out)
        clear h0
        go_wp2_with fail
        go_ret2
        exact ⟨by rw [HP.out]; rfl, rfl⟩
    · obtain rfl : k = r := by omega
      have hki : ¬ (k : Int) < (k : Int) := by omega
      have HP := Lib.hid (piv_none HK.out)
      go_wp2_with fail
      go_ret2
      exact ⟨by rw [HP.out]; rfl, rfl⟩

/-- row k turns in place -/
def RowTurn (E EE : TypeId) (w : World) (lo hi : Nat) (v : Value) (L : Mat) (vs : List Value) (e : Ending) (w' : World) : Prop := e = .returned (.tuple #[]) ∧ OwnM E EE w' lo hi v L vs ∧ TurnIn lo hi w w'

set_option maxRecDepth 100000 in
set_option maxHeartbeats 1000000 in
theorem scaleRow_any (r c k lo hi : Nat) (F : Ents) (s : UInt8) (v u : Value) (vs : List Value) (w : World) (hM : OwnM 143 169 w lo hi v (mkM r c F) vs) (hk : k < r) (hu : vs[k]? = some u) (hc1 : 1 ≤ c) (hc : c ≤ 1000) (ht : Tab w) (h0 : 2 < lo) :
    Calls Tryd.prog 155 #[u, .int .u8 (s.toNat : Int)] w (RowTurn 143 169 w lo hi v (mkM r c (scF k s F)) vs) := by
  obtain ⟨bb, cp, hu2, e1, e2, e3, e4, e5, hfz, hcell⟩ := hM.rowF k hk hc1
  obtain rfl : u = .slice (some ⟨bb, 0, none⟩) c cp := Option.some.inj (hu.symm.trans hu2)
  have HU := Lib.hid hu
  have HM0 := Lib.hid (hM.congr (L' := mkM r c fun i j => if i = k ∧ j < 0 then gmul s (F k j) else F i j) (mkM_congr fun i j _ _ => by simp))
  have HT := Lib.hid ht
  have hm1 := methTimes
  unfold maxLen at e5
  clear hM hu hu2 hfz hcell ht
  go_enter Tryd.func155, Tryd.ntmps155
  go_wp2_with fail
  go_loopw [7] (fun i wr => ∃ m : Nat, m ≤ c ∧ i = .int .i64 m ∧ Hid (OwnM 143 169 wr lo hi v (mkM r c fun i j => if i = k ∧ j < m then gmul s (F k j) else F i j) vs) ∧ Hid (TurnIn lo hi w wr)) (fun i _ => c - (intOf i).toNat)
  case atStart => exact ⟨0, Nat.zero_le _, rfl, HM0, Lib.hid ⟨rfl, rfl, rfl, Nat.le_refl _, fun _ _ _ => rfl⟩⟩
  case round =>
    obtain ⟨m, hm, rfl, HM, HK⟩ := hrel
    by_cases hlm : m < c
    · have hmi : (m : Int) < (c : Int) := by omega
      obtain ⟨bb', cp', hu2, f1, f2, f3, f4, f5, hfz, hcell⟩ := HM.out.rowF k hk hc1
      obtain ⟨rfl, rfl⟩ : bb = bb' ∧ cp = cp' := by simpa using HU.out.symm.trans hu2
      have hcx := hcell m hlm
      have e : (if k = k ∧ m < m then gmul s (F k m) else F k m) = F k m := if_neg (by omega)
      rw [e] at hcx
      have hfr := hfz m
      have htr : Tab wr := fun i hi => (World.cell?_of_block (HK.out.block 2 (by have := HM0.out.top; omega) (by omega))).trans (HT.out i hi)
      have HTR := Lib.hid htr
      have HM2 := Lib.hid ((HM.out.storeF (j := m) (x := gmul s (F k m)) hk HU.out).congr (L' := mkM r c fun i j => if i = k ∧ j < m + 1 then gmul s (F k j) else F i j) (mkM_congr fun i j _ _ => by
        by_cases a1 : i = k
        · subst a1
          by_cases a2 : j = m
          · subst a2; simp
          · by_cases a3 : j < m
            · simp [a2, a3]; omega
            · simp [a2, a3]; omega
        · simp [a1]))
      have HK2 := Lib.hid (turn_trans HK.out (turn_setCell wr bb m (.int .u8 ((gmul s (F k m)).toNat : Int))) (by omega))
      have HC := Lib.hid (gmul_comm (F k m) s)
      clear hcell hfz hu2 f3 f5 htr e
      go_wp2_with fail
      refine (fbTimes_any (F k m) s _ HTR.out).mono ?_
      rintro e w' ⟨rfl, rfl⟩
      rw [HC.out]
      go_wp2_with fail
      go_roundw
      case rel => exact ⟨m + 1, by omega, by go_num, HM2, HK2⟩
      case measure => simp [intOf]; omega
    · obtain rfl : m = c := by omega
      have hmi : ¬ (m : Int) < (m : Int) := by omega
      go_wp2_with fail
      go_end0
      exact ⟨rfl, HM.out.congr (mkM_congr fun i j _ hj => by
        unfold scF
        by_cases a1 : i = k
        · subst a1; simp [hj]
        · simp [a1]), HK.out⟩

theorem stilly {P : Program} {f : FuncId} {args : Array Value} {w : World} {v : Value} (h : Calls P f args w fun e w' => e = .returned v ∧ w = w') :
    Calls P f args w fun e w' => e = .returned v ∧ w' = w := h.mono fun _ _ ⟨he, hw⟩ => ⟨he, hw.symm⟩

/-- column j cleared in the rows ahead of k and in the first m columns of row k -/
def clK (a j k m : Nat) (F : Ents) : Ents := fun i jj => if i < k ∨ (i = k ∧ jj < m) then clF a (fun i => F i j) F i jj else F i jj

set_option maxRecDepth 100000 in
set_option maxHeartbeats 2000000 in
theorem clearColumn_any (r c a j lo hi : Nat) (F : Ents) (v : Value) (vs : List Value) (w : World) (hM : OwnM 143 169 w lo hi v (mkM r c F) vs) (ha : a < r) (hj : j < c) (hr : r ≤ 1000) (hc : c ≤ 1000) (ht : Tab w) (h0 : 2 < lo) :
    Calls Tryd.prog 156 #[v, .int .i64 a, .int .i64 j] w (RowTurn 143 169 w lo hi v (mkM r c (clF a (fun i => F i j) F)) vs) := by
  obtain ⟨g, cp, rfl, hg1, hg2, hg3, hg4⟩ := hM.sliceF (by omega)
  have HM0 := Lib.hid (hM.congr (L' := mkM r c (clK a j 0 0 F)) (mkM_congr fun i jj _ _ => by simp [clK]))
  have HT := Lib.hid ht
  have hm1 := methTimes
  have hm2 := methPlus
  unfold maxLen at hg4
  clear hM ht
  go_enter Tryd.func156, Tryd.ntmps156
  go_wp2_with fail
  go_loopw [11] (fun i wr => ∃ k : Nat, k ≤ r ∧ i = .int .i64 k ∧ Hid (OwnM 143 169 wr lo hi (.slice (some ⟨g, 0, none⟩) r cp) (mkM r c (clK a j k 0 F)) vs) ∧ Hid (TurnIn lo hi w wr)) (fun i _ => r - (intOf i).toNat)
  case atStart => exact ⟨0, Nat.zero_le _, rfl, HM0, Lib.hid ⟨rfl, rfl, rfl, Nat.le_refl _, fun _ _ _ => rfl⟩⟩
  case round =>
    obtain ⟨k, hk, rfl, HM, HK⟩ := hrel
    by_cases hlt : k < r
    · have hki : (k : Int) < (r : Int) := by omega
      by_cases hka : k = a
      · have hbb : ((k : Int) == (a : Int)) = true := by simp [hka]
        have HM2 := Lib.hid (HM.out.congr (L' := mkM r c (clK a j (k + 1) 0 F)) (mkM_congr fun i jj _ _ => by
          unfold clK
          by_cases a1 : i = k
          · subst a1; simp [clF, hka]
          · by_cases a2 : i < k
            · simp [a2, show i < k + 1 by omega]
            · simp [a1, a2, show ¬ i < k + 1 by omega]))
        clear hka
        go_wp2_with fail
        go_roundw
        case rel => exact ⟨k + 1, by omega, by go_num, HM2, HK⟩
        case measure => simp [intOf]; omega
      · have hbb : ((k : Int) == (a : Int)) = false := by simp; omega
        obtain ⟨bk, ck, huk, k1, k2, k3, k4, k5, kfz, kcell⟩ := HM.out.rowF k hlt (by omega)
        obtain ⟨ba, ca, hua, a1, a2, a3, a4, a5, afz, acell⟩ := HM.out.rowF a ha (by omega)
        have hck := HM.out.cellAt huk
        have hcf := kcell j hj
        have ef : clK a j k 0 F k j = F k j := by simp [clK]
        rw [ef] at hcf
        have hne : bk ≠ ba := fun e => hka ((HM.out.apart a _ ba hua rfl).2 k _ huk (by rw [e]; rfl))
        have HUK := Lib.hid huk
        have HUA := Lib.hid hua
        have n1 : g ≠ bk := fun e => k3 (by rw [e]; rfl)
        have n2 : g ≠ ba := fun e => a3 (by rw [e]; rfl)
        have hji : (j : Int) < (c : Int) := by omega
        unfold maxLen at k5 a5
        have HKA := Lib.hid hka
        clear kcell acell kfz afz huk hua k3 a3 ef hka
        go_wp2_with fail
        go_loopw [29] (fun i wq => ∃ m : Nat, m ≤ c ∧ i = .int .i64 m ∧ Hid (OwnM 143 169 wq lo hi (.slice (some ⟨g, 0, none⟩) r cp) (mkM r c (clK a j k m F)) vs) ∧ Hid (TurnIn lo hi w wq)) (fun i _ => c - (intOf i).toNat)
        case atStart => exact ⟨0, Nat.zero_le _, rfl, HM, HK⟩
        case round =>
          obtain ⟨m, hm, rfl, HM, HK⟩ := hrel
          clear hck hcf
          by_cases hlm : m < c
          · have hmi : (m : Int) < (c : Int) := by omega
            have hk0 : (0 : Int) ≤ (k : Int) := Int.natCast_nonneg _
            have hm0 : (0 : Int) ≤ (m : Int) := Int.natCast_nonneg _
            have ha0 : (0 : Int) ≤ (a : Int) := Int.natCast_nonneg _
            have hai : (a : Int) < (r : Int) := by omega
            obtain ⟨bk', ck', huk, _, _, _, _, _, kfz, kcell⟩ := HM.out.rowF k hlt (by omega)
            obtain ⟨rfl, rfl⟩ : bk = bk' ∧ ck = ck' := by simpa using HUK.out.symm.trans huk
            obtain ⟨ba', ca', hua, _, _, _, _, _, afz, acell⟩ := HM.out.rowF a ha (by omega)
            obtain ⟨rfl, rfl⟩ : ba = ba' ∧ ca = ca' := by simpa using HUA.out.symm.trans hua
            have hck := HM.out.cellAt HUK.out
            have hca := HM.out.cellAt HUA.out
            have hcx := kcell m hlm
            have hcy := acell m hlm
            have hfr := kfz m
            have ex : clK a j k m F k m = F k m := by simp [clK]
            have ey : clK a j k m F a m = F a m := by unfold clK clF; split <;> simp
            rw [ex] at hcx
            rw [ey] at hcy
            have htr : Tab wr := fun i hi => (World.cell?_of_block (HK.out.block 2 (by have := HM0.out.top; omega) (by omega))).trans (HT.out i hi)
            have htd : Tab wr.drew := htr
            have HTR := Lib.hid htd
            obtain ⟨y, hyy⟩ : ∃ y : UInt8, y = F k m ^^^ gmul (F k j) (F a m) := ⟨_, rfl⟩
            have HPL : Hid (∀ W, Calls Tryd.prog 177 #[.int .u8 ((F k m).toNat : Int), .int .u8 ((gmul (F k j) (F a m)).toNat : Int)] W fun e w' => e = .returned (.int .u8 (y.toNat : Int)) ∧ w' = W) := by
              intro W
              rw [hyy]
              exact stilly (fbPlus_any (F k m) (gmul (F k j) (F a m)) W)
            have HM2 := Lib.hid (((HM.out.storeF (j := m) (x := y) hlt HUK.out).congr (L' := mkM r c (clK a j k (m + 1) F)) (mkM_congr fun i jj _ _ => by
              unfold clK
              by_cases b1 : i = k
              · subst b1
                by_cases b2 : jj = m
                · subst b2
                  have : ¬ i = a := HKA.out
                  simp [clF, this, hyy]
                · by_cases b3 : jj < m
                  · simp [b2, b3, show jj < m + 1 by omega]
                  · simp [b2, b3, show ¬ jj < m + 1 by omega]
              · simp [b1])).drewN 1)
            have hk2 := turn_trans HK.out (turn_setCell wr bk m (.int .u8 (y.toNat : Int))) (by omega)
            have HK2 : Hid (TurnIn lo hi w (wr.setCell ⟨bk, m, none⟩ (.int .u8 (y.toNat : Int))).drew) := ⟨hk2.os, hk2.tape, hk2.output, hk2.size, hk2.block⟩
            clear kcell acell kfz afz huk hua ex ey htr htd hk2 hyy
            go_wp2_with fail
            refine wp_region_still_tail 25 (by kernel_rfl) (by kernel_rfl) ?_
            simp only [List.take_succ_cons, List.take_zero, List.drop_succ_cons, List.drop_zero]
            repeat (first | still_step | still_call (stilly (fbTimes_any (F k j) (F a m) _ HTR.out)) | still_call (HPL.out _))
            refine wpStill_nil ?_
            go_wp2_with fail
            go_roundw
            case rel => exact ⟨m + 1, by omega, by go_num, HM2, HK2⟩
            case measure => simp [intOf]; omega
          · obtain rfl : m = c := by omega
            have hmi : ¬ (m : Int) < (m : Int) := by omega
            go_wp2_with fail
            go_roundw
            case rel => exact ⟨k + 1, by omega, by go_num, Lib.hid (HM.out.congr (mkM_congr fun i jj _ hjj => by
              unfold clK
              by_cases b1 : i = k
              · subst b1; simp [hjj]
              · by_cases b2 : i < k
                · simp [b2, show i < k + 1 by omega]
                · simp [b1, b2, show ¬ i < k + 1 by omega])), HK⟩
            case measure => simp [intOf]; omega
    · obtain rfl : k = r := by omega
      have hki : ¬ (k : Int) < (k : Int) := by omega
      go_wp2_with fail
      go_end0
      exact ⟨rfl, HM.out.congr (mkM_congr fun i j hi _ => by simp [clK, hi]), HK.out⟩
end Go.Proofs.YtfglkgeeelapgaaDoor
