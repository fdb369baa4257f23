/- Joined texts: BytesOwn, VecPair, VecScale, TailHeld, NodeRow, NodeRow2, VecDot. -/
import Derived.Test.YtbopocpmodpfcaaBd03
import Derived.Test.YtbopocpmodpfcaaBd00
import Derived.Test.YtbopocpmodpfcaaBd05
import Derived.OrdersHeld
import Derived.StillTail
import Derived.Deep.RegionHeld
import Derived.Deep.QuietTactic
import Derived.BigQuiet
import Derived.Test.YtbopocpmodpfcaaBd04
set_option linter.unusedSimpArgs false
set_option linter.unusedVariables false
/- The helpers on []byte, by intervals. -/
namespace Go.Proofs.Ytbopocpmodpfcaa
open Go.RowKit G294

theorem retBytesOk_of {w : World} {l : List UInt8} {ok : Bool} {e : Ending} {w' : World} (h : MadeOk w 5 (bys l) ok e w') : RetBytesOk 5 w l ok e w' := by
  obtain ⟨v', he, ho, hb⟩ := h
  exact ⟨v', he, OwnBytes.of_made (by simpa using ho), TurnIn.of_below hb⟩

end Go.Proofs.Ytbopocpmodpfcaa

/- goodVector and goodPair. -/
namespace Go.Proofs.Ytbopocpmodpfcaa
open Go.RowKit G294

end Go.Proofs.Ytbopocpmodpfcaa

/- Contracts of ScaleVector, the program's and the model's. -/
namespace Go.Proofs.Ytbopocpmodpfcaa
open Go.RowKit G294

theorem scaleR_len (a : UInt8) (l : List UInt8) : (scaleR a l).length ≤ 80 := by
  unfold scaleR; split
  · simpa [scaleL]
  · simp

end Go.Proofs.Ytbopocpmodpfcaa

/- Regions that draw their order and end in one operation that waits for all others: behind it nothing is asked of the cells that the loads read. -/
namespace G294
open Go Go.RowKit
section
variable {P : Program} {md : Region.Mode} {ops : Array Oper} {Q : Exit → Act → World → Prop} {S : World → Prop} {L : Nat}
/-- whatever comes up next; behind each operation but the last, L, S holds -/
def wpAnyT (P : Program) (md : Region.Mode) (ops : Array Oper) (Q : Exit → Act → World → Prop) (S : World → Prop) (L : Nat) : Nat → Array Bool → Act → World → Prop
  | 0, listed, a, w => Region.ready md ops listed = [] ∧ Q .normal a w
  | fuel + 1, listed, a, w =>
    (Region.ready md ops listed = [] → Q .normal a w) ∧
    ∀ i ∈ Region.ready md ops listed, wpOp P ops Q i (fun a' w' => (i ≠ L → S w') ∧ wpAnyT P md ops Q S L fuel (listed.setIfInBounds i true) a' w') a w
theorem wpAny_of_T : ∀ (fuel : Nat) (listed : Array Bool) (a : Act) (w : World), wpAnyT P md ops Q S L fuel listed a w → wpAny P md ops Q fuel listed a w
  | 0, _, _, _, h => h
  | fuel + 1, _, _, _, h => ⟨h.1, fun i hi => wpOp_mono (fun a' w' h' => wpAny_of_T fuel _ a' w' h'.2) (h.2 i hi)⟩
theorem not_ready {i j : Nat} {listed : Array Bool} (hw : Region.waitsFor md ops j i = true) (hi : i ∈ Region.ready md ops listed) : j ∉ Region.ready md ops listed := fun hj => by
  obtain ⟨oj, hoj, e, he, hb, hon⟩ := Region.waitsFor_spec hw
  obtain ⟨_, oj', hoj', hall⟩ := mem_ready.1 hj
  obtain rfl : oj' = oj := Option.some.inj (hoj'.symm.trans hoj)
  have h1 := hall e he hb
  have h0 := (mem_ready.1 hi).1
  rw [hon] at h1
  rcases Nat.lt_or_ge i listed.size with h' | h'
  · simp [h'] at h0 h1; rw [h0] at h1; cases h1
  · simp [Array.getElem?_eq_none h'] at h1
theorem wpAnyT_first {i : Nat} {oi : Oper} {v : Value} (hi : ops[i]? = some oi) (hsel : ∀ (j : Nat) (o : Oper) cs b, ops[j]? = some o → o.op ≠ .select cs b)
    (hQ : ∀ c a w, Q (.panic c) (a.put oi.dst v) w → Q (.panic c) a w) (hwl : Region.waitsFor md ops L i = true) :
    ∀ (fuel : Nat) (listed : Array Bool) (a : Act) (w : World),
      (∀ j oj, ops[j]? = some oj → j ≠ i → listed.getD j true = false → (∀ e ∈ oj.after, Region.binds md e = true → e.on ≠ i) → oi.apart ops oj = true) →
      i ∈ Region.ready md ops listed → YieldsIf P ops S oi v a → S w →
      wpAnyT P md ops Q S L fuel (listed.setIfInBounds i true) (a.put oi.dst v) w → wpAnyT P md ops Q S L (fuel + 1) listed a w := by
  intro fuel
  induction fuel with
  | zero =>
    intro listed a w _ hr hy hS H
    refine ⟨fun h => (by rw [h] at hr; cases hr), fun j hj => ?_⟩
    by_cases hji : j = i
    · subst hji; exact hy.wpOp hi hS ⟨fun _ => hS, H⟩
    · have h5 := ready_mono hj hji
      rw [H.1] at h5
      cases h5
  | succ fuel ih =>
    intro listed a w hfree hr hy hS H
    refine ⟨fun h => (by rw [h] at hr; cases hr), fun j hj => ?_⟩
    by_cases hji : j = i
    · subst hji; exact hy.wpOp hi hS ⟨fun _ => hS, H⟩
    · have hjL : j ≠ L := fun e => not_ready hwl hr (e ▸ hj)
      obtain ⟨hjun, oj, hoj, hall⟩ := mem_ready.1 hj
      have hnot : ∀ e ∈ oj.after, Region.binds md e = true → e.on ≠ i := fun e he hb heq => by
        have h1 := hall e he hb
        have h0 := (mem_ready.1 hr).1
        rw [heq] at h1
        rcases Nat.lt_or_ge i listed.size with h' | h'
        · simp [h'] at h0 h1; rw [h0] at h1; cases h1
        · simp [Array.getElem?_eq_none h'] at h1
      have h2 := wpOp_putIf hoj (hfree j oj hoj hji hjun hnot) (fun cs b => hsel i oi cs b hi) (fun cs b => hsel j oj cs b hoj) hQ hy (H.2 j (ready_mono hj hji))
      refine wpOp_mono (fun a' w' h3 => ⟨h3.2.1, ih (listed.setIfInBounds j true) a' w' (fun k ok hk hki hun hno => ?_) (ready_mono hr (Ne.symm hji)) h3.1 (h3.2.1 hjL) ?_⟩) h2
      · refine hfree k ok hk hki ?_ hno
        by_cases hjk : j = k
        · subst hjk; exact hjun
        · rw [getD_set_ne true hjk] at hun; exact hun
      · rw [Array.setIfInBounds_comm _ _ hji]
        exact h3.2.2
theorem wpAnyT_take {i : Nat} {oi : Oper} {v : Value} {fuel : Nat} {listed : Array Bool} {a : Act} {w : World} (hi : ops[i]? = some oi)
    (hs : Region.noSelect ops = true) (hf : Region.free md ops listed i = true) (hr : (Region.ready md ops listed).contains i = true) (hwl : Region.waitsFor md ops L i = true)
    (hQ : ∀ c a w, Q (.panic c) (a.put oi.dst v) w → Q (.panic c) a w) (hy : YieldsIf P ops S oi v a) (hS : S w)
    (h : wpAnyT P md ops Q S L fuel (listed.setIfInBounds i true) (a.put oi.dst v) w) : wpAnyT P md ops Q S L (fuel + 1) listed a w :=
  wpAnyT_first hi (Region.noSelect_spec hs) hQ hwl fuel listed a w (Region.free_spec hi hf) (by simpa using hr) hy hS h
/-- one operation alone may come up -/
theorem wpAnyT_one {i : Nat} {o : Oper} {fuel : Nat} {listed : Array Bool} {a : Act} {w : World} (ho : ops[i]? = some o) (hr : Region.ready md ops listed = [i])
    (h : ∀ K' : Act → World → Prop, Shut (∀ a w, (i ≠ L → S w) → wpAnyT P md ops Q S L fuel (listed.setIfInBounds i true) a w → K' a w) → if Region.wanted o (yielded ops a.tmps) = true then Oper.wp P o a w K' Q else K' (a.put o.dst undef) w) :
    wpAnyT P md ops Q S L (fuel + 1) listed a w :=
  ⟨fun h0 => (by rw [hr] at h0; cases h0), fun j hj => by
    rw [hr] at hj
    obtain rfl : j = i := by simpa using hj
    exact wpOp_step ho (fun K' hK => h K' (fun a w hS hW => hK a w ⟨hS, hW⟩))⟩
theorem wpAnyT_done {listed : Array Bool} {a : Act} {w : World} (hr : Region.ready md ops listed = []) (h : Q .normal a w) : ∀ fuel, wpAnyT P md ops Q S L fuel listed a w
  | 0 => ⟨hr, h⟩
  | _ + 1 => ⟨fun _ => h, by rw [hr]; simp⟩
theorem wp_region_tail {id : Nat} {a : Act} {w : World} (S : World → Prop) (L : Nat) (hm : P.follows .mixedOrders = true)
    (h : wpAnyT P .any ops Q S L ops.size (Array.replicate ops.size false) a w.drew) : (Code.region id ops true).wp P Q a w :=
  wp_region_any hm (wpAny_of_T _ _ _ _ h)
end
end G294

/- The row of a node: nodeNumber, nodeFactor, hasNode, powerRow, MsrRow; the model's l5X, l5F, l5Short, l5Row, MsrRow. -/
namespace G294
open Go Go.RowKit
def nodeOk (n k i : Int) : Bool := msrOk n k && decide (0 ≤ i ∧ i < n)
theorem nodeOk_b {n k i : Int} (h : nodeOk n k i = true) : msrOk n k = true ∧ 0 ≤ i ∧ i < n := by simpa [nodeOk] using h
def rowR (n k i : Int) : List UInt8 := if nodeOk n k i = true then rowL (k - 1).toNat i.toNat else []
theorem rowR_no {n k i : Int} (h : nodeOk n k i = false) : rowR n k i = [] := if_neg (by rw [h]; simp)
theorem rowR_yes {n : Int} {a i : Nat} (h : nodeOk n ((a : Int) + 1) i = true) : rowR n ((a : Int) + 1) i = rowL a i := by unfold rowR; rw [if_pos h]; congr 1; omega
theorem rowR_len (n k i : Int) : (rowR n k i).length ≤ 6 := by
  unfold rowR; split
  · rename_i h
    have := msrOk_b (nodeOk_b h).1
    rw [rowL_length]; omega
  · simp
end G294
namespace Go.Proofs.Ytbopocpmodpfcaa
open Go.RowKit G294

end Go.Proofs.Ytbopocpmodpfcaa

/- MsrRow, the program's and the model's. -/
namespace G294
open Go Go.RowKit
/-- a literal of two bytes -/
theorem seen_duo (w : World) (x y : UInt8) (T : TypeId) : Seen (w.alloc (.cells #[.int .u8 (x.toNat : Int), .int .u8 (y.toNat : Int)] T)) (.slice (some ⟨w.heap.size, 0, none⟩) 2 2) (bys [x, y]) := by
  refine ⟨_, _, rfl, by simp [bys], by unfold maxLen; omega, fun _ => ⟨w.heap.size, 0, rfl, by simp, fun i u hu => ?_⟩⟩
  match i, hu with
  | 0, hu => simp only [bys, List.map_cons, List.getElem?_cons_zero, Option.some.injEq] at hu; subst hu; exact alloc_duo0 _ _ _ _
  | 1, hu => simp only [bys, List.map_cons, List.getElem?_cons_succ, List.getElem?_cons_zero, Option.some.injEq] at hu; subst hu; exact alloc_duo1 _ _ _ _
  | i + 2, hu => simp [bys] at hu
theorem seen_one (w : World) (x : UInt8) (T : TypeId) : Seen (w.alloc (.cells #[.int .u8 (x.toNat : Int)] T)) (.slice (some ⟨w.heap.size, 0, none⟩) 1 1) (bys [x]) := by
  refine ⟨_, _, rfl, by simp [bys], by unfold maxLen; omega, fun _ => ⟨w.heap.size, 0, rfl, by simp, fun i u hu => ?_⟩⟩
  match i, hu with
  | 0, hu => simp only [bys, List.map_cons, List.getElem?_cons_zero, Option.some.injEq] at hu; subst hu; exact alloc_cell _ _ _
  | i + 1, hu => simp [bys] at hu
end G294
namespace Go.Proofs.Ytbopocpmodpfcaa
open Go.RowKit G294

end Go.Proofs.Ytbopocpmodpfcaa

/- Contracts of DotVectors, the program's and the model's. -/
namespace Go.Proofs.Ytbopocpmodpfcaa
open Go.RowKit G294

end Go.Proofs.Ytbopocpmodpfcaa
