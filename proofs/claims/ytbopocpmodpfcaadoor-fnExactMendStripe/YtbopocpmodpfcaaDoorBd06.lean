/- Joined texts: BytesOwn, VecPair, VecScale, TailHeld, NodeRow, NodeRow2, VecDot. -/
import Derived.Test.YtbopocpmodpfcaaDoorBd03
import Derived.Test.YtbopocpmodpfcaaDoorBd00
import Derived.Test.YtbopocpmodpfcaaDoorBd05
import Derived.OrdersHeld
import Derived.StillTail
import Derived.Deep.RegionHeld
import Derived.Deep.QuietTactic
import Derived.BigQuiet
import Derived.Test.YtbopocpmodpfcaaDoorBd04
set_option linter.unusedSimpArgs false
set_option linter.unusedVariables false
/- The helpers on []byte, by intervals. -/
namespace Go.Proofs.YtbopocpmodpfcaaDoor
open Go.RowKit G294

theorem eqByteS_own (v u : Value) (l m : List UInt8) (w : World) (hv : Seen w v (bys l)) (hu : Seen w u (bys m)) : Calls Tryd.prog 111 #[v, u] w (RetBool w (l == m)) :=
  (eqByteS_any v u l m w hv hu).mono fun e w' ⟨he, hb⟩ => ⟨he, TurnIn.of_below hb⟩

theorem eqByteS_same (v u : Value) (l : List UInt8) (w : World) (hv : Seen w v (bys l)) (hu : Seen w u (bys l)) : Calls Tryd.prog 111 #[v, u] w (RetBool w true) := by
  have := eqByteS_own v u l l w hv hu
  rwa [beq_self_eq_true] at this

theorem markByteS_own (v : Value) (l : List UInt8) (k lo hi : Nat) (w : World) (hv : OwnBytes 5 w lo hi v l) (hk : k + l.length ≤ 1000000000000) :
    Calls Tryd.prog 112 #[v, .int .i64 k] w (RetMarkB 5 w lo hi v k l.length) :=
  (markByteS_any v l k lo w hv.1 hk).mono fun e w' ⟨he, ho, hg⟩ => ⟨he, ⟨by simpa using ho, Nat.le_trans hv.2.1 hg.size, hv.2.2⟩, TurnIn.of_grown hg fun g h => ⟨(hv.1.lt g h).1, hv.2.2 g h⟩⟩

theorem heldByteS_own (v : Value) (k n : Nat) (w : World) (hv : Seen w v (bys (marks k n))) (hk : k + n ≤ 1000000000000) : Calls Tryd.prog 113 #[v, .int .i64 k] w (RetInt w ((k + n : Nat) : Int)) :=
  (heldByteS_any v k n w hv hk).mono fun e w' ⟨he, hb⟩ => ⟨he, TurnIn.of_below hb⟩

theorem retBytesOk_of {w : World} {l : List UInt8} {ok : Bool} {e : Ending} {w' : World} (h : MadeOk w 5 (bys l) ok e w') : RetBytesOk 5 w l ok e w' := by
  obtain ⟨v', he, ho, hb⟩ := h
  exact ⟨v', he, OwnBytes.of_made (by simpa using ho), TurnIn.of_below hb⟩

end Go.Proofs.YtbopocpmodpfcaaDoor

/- goodVector and goodPair. -/
namespace Go.Proofs.YtbopocpmodpfcaaDoor
open Go.RowKit G294

end Go.Proofs.YtbopocpmodpfcaaDoor

/- Contracts of ScaleVector, the program's and the model's. -/
namespace Go.Proofs.YtbopocpmodpfcaaDoor
open Go.RowKit G294

set_option maxHeartbeats 400000 in
theorem l1Scale_any (a : UInt8) (v : Value) (l : List UInt8) (w : World) (hv : Seen w v (bys l)) (hn : l.length ≤ 1048576) :
    Calls Tryd.prog 123 #[.int .u8 (a.toNat : Int), v] w (Made w 5 (bys (scaleL a l))) := by
  obtain ⟨A, c, rfl, hlc, hcm, hx⟩ := hv
  rw [bys_length] at hlc hx
  simp only [bys_length]
  unfold maxLen at hcm
  generalize hnn : l.length = n at *
  have HN := Lib.hid hnn
  clear hnn
  go_enter Tryd.func123, Tryd.ntmps123
  go_wp2_with fail
  go_loopw [5, 10] (fun o i wr => ∃ k : Nat, k ≤ n ∧ i = .int .i64 k ∧ wr.ownsRow w.heap.size 5 1 o k (bys ((scaleL a l).take k)) ∧ Below w.heap.size w wr)
    (fun _ i _ => n - (intOf i).toNat)
  case atStart => exact ⟨0, Nat.zero_le _, rfl, World.ownsRow_nil _ _ _ _, Below.refl _ _⟩
  case round =>
    obtain ⟨k, hk, rfl, hown, hb⟩ := hrel
    by_cases hlt : k < n
    · obtain ⟨b, off, rfl, hbl, hcell⟩ := hx (by omega)
      have hkl : k < l.length := by rw [HN.out]; exact hlt
      have hcx : wr.cell? ⟨b, off + k, none⟩ = some (.int .u8 ((l[k]).toNat : Int)) := (hb.cell (p := ⟨b, off + k, none⟩) hbl).trans (hcell k _ (bys_get l k hkl))
      clear hcell hx
      have hki : (k : Int) < (n : Int) := by omega
      go_wp2_with fail
      refine (l1Times_u8 a l[k] _).mono ?_
      rintro e w' ⟨rfl, rfl⟩
      go_wp2_with (at_builtin; refine wpList_append1 rfl _ _ _ rfl w.heap.size 5 _ _ Tryd.underlying22 infoByte rfl _ k _ rfl (hown.alloc _) wr.heap.size (.int .u8 ((gmul a l[k]).toNat : Int)) rfl ?c1 rfl ?c2 ?c3 ?c4 ?_)
      case c1 => simp
      case c2 => omega
      case c3 => omega
      case c4 => have := hb.size; simp; omega
      intro v' w' hown' hg' _
      have hb' : Below w.heap.size w w' := below_append (hb.alloc hb.size _) (hown.alloc _) hg' (Nat.le_refl _) (by have := hb.size; simp; omega)
      have hown2 : w'.ownsRow w.heap.size 5 1 v' (k + 1) (bys ((scaleL a l).take (k + 1))) := by
        have e : (scaleL a l).take (k + 1) = (scaleL a l).take k ++ [gmul a l[k]] := by
          rw [List.take_succ_eq_append_getElem (by simp [scaleL, hkl])]; simp [scaleL]
        rw [e, bys_append]; exact hown'
      clear hown' hg'
      go_wp2_with fail
      go_roundw
      case rel => exact ⟨k + 1, by omega, by go_num, hown2, hb'⟩
      case measure => simp [intOf]; omega
    · obtain rfl : k = n := by omega
      have hki : ¬ (k : Int) < (k : Int) := by omega
      go_wp2_with fail
      go_ret
      refine ⟨_, rfl, ?_, hb⟩
      rw [List.take_of_length_le (by simp [scaleL, HN.out])] at hown
      simpa [HN.out, scaleL] using hown

theorem scaleR_len (a : UInt8) (l : List UInt8) : (scaleR a l).length ≤ 80 := by
  unfold scaleR; split
  · simpa [scaleL]
  · simp

end Go.Proofs.YtbopocpmodpfcaaDoor

/- Regions that draw their order and end in one operation that waits for all others: behind it nothing is asked of the cells that the loads read. -/
namespace G294
open Go Go.RowKit
section
variable {P : Program} {md : Region.Mode} {ops : Array Oper} {Q : Exit → Act → World → Prop} {S : World → Prop} {L : Nat}
/-- whatever comes up next; behind each operation but the last, L, S holds -/
def wpAnyT (P : Program) (md : Region.Mode) (ops : Array Oper) (Q : Exit → Act → World → Prop) (S : World → Prop) (L : Nat) : Nat → Array Bool → Act → World → Prop
  | 0, listed, a, w => Region.ready md ops listed = [] ∧ Q .normal a w
  | fuel + 1, listed, a, w =>
    (Region.ready md ops listed = [] → Q .normal a w) ∧
    ∀ i ∈ Region.ready md ops listed, wpOp P ops Q i (fun a' w' => (i ≠ L → S w') ∧ wpAnyT P md ops Q S L fuel (listed.setIfInBounds i true) a' w') a w
theorem wpAny_of_T : ∀ (fuel : Nat) (listed : Array Bool) (a : Act) (w : World), wpAnyT P md ops Q S L fuel listed a w → wpAny P md ops Q fuel listed a w
  | 0, _, _, _, h => h
  | fuel + 1, _, _, _, h => ⟨h.1, fun i hi => wpOp_mono (fun a' w' h' => wpAny_of_T fuel _ a' w' h'.2) (h.2 i hi)⟩
theorem not_ready {i j : Nat} {listed : Array Bool} (hw : Region.waitsFor md ops j i = true) (hi : i ∈ Region.ready md ops listed) : j ∉ Region.ready md ops listed := fun hj => by
  obtain ⟨oj, hoj, e, he, hb, hon⟩ := Region.waitsFor_spec hw
  obtain ⟨_, oj', hoj', hall⟩ := mem_ready.1 hj
  obtain rfl : oj' = oj := Option.some.inj (hoj'.symm.trans hoj)
  have h1 := hall e he hb
  have h0 := (mem_ready.1 hi).1
  rw [hon] at h1
  rcases Nat.lt_or_ge i listed.size with h' | h'
  · simp [h'] at h0 h1; rw [h0] at h1; cases h1
  · simp [Array.getElem?_eq_none h'] at h1
theorem wpAnyT_first {i : Nat} {oi : Oper} {v : Value} (hi : ops[i]? = some oi) (hsel : ∀ (j : Nat) (o : Oper) cs b, ops[j]? = some o → o.op ≠ .select cs b)
    (hQ : ∀ c a w, Q (.panic c) (a.put oi.dst v) w → Q (.panic c) a w) (hwl : Region.waitsFor md ops L i = true) :
    ∀ (fuel : Nat) (listed : Array Bool) (a : Act) (w : World),
      (∀ j oj, ops[j]? = some oj → j ≠ i → listed.getD j true = false → (∀ e ∈ oj.after, Region.binds md e = true → e.on ≠ i) → oi.apart ops oj = true) →
      i ∈ Region.ready md ops listed → YieldsIf P ops S oi v a → S w →
      wpAnyT P md ops Q S L fuel (listed.setIfInBounds i true) (a.put oi.dst v) w → wpAnyT P md ops Q S L (fuel + 1) listed a w := by
  intro fuel
  induction fuel with
  | zero =>
    intro listed a w _ hr hy hS H
    refine ⟨fun h => (by rw [h] at hr; cases hr), fun j hj => ?_⟩
    by_cases hji : j = i
    · subst hji; exact hy.wpOp hi hS ⟨fun _ => hS, H⟩
    · have h5 := ready_mono hj hji
      rw [H.1] at h5
      cases h5
  | succ fuel ih =>
    intro listed a w hfree hr hy hS H
    refine ⟨fun h => (by rw [h] at hr; cases hr), fun j hj => ?_⟩
    by_cases hji : j = i
    · subst hji; exact hy.wpOp hi hS ⟨fun _ => hS, H⟩
    · have hjL : j ≠ L := fun e => not_ready hwl hr (e ▸ hj)
      obtain ⟨hjun, oj, hoj, hall⟩ := mem_ready.1 hj
      have hnot : ∀ e ∈ oj.after, Region.binds md e = true → e.on ≠ i := fun e he hb heq => by
        have h1 := hall e he hb
        have h0 := (mem_ready.1 hr).1
        rw [heq] at h1
        rcases Nat.lt_or_ge i listed.size with h' | h'
        · simp [h'] at h0 h1; rw [h0] at h1; cases h1
        · simp [Array.getElem?_eq_none h'] at h1
      have h2 := wpOp_putIf hoj (hfree j oj hoj hji hjun hnot) (fun cs b => hsel i oi cs b hi) (fun cs b => hsel j oj cs b hoj) hQ hy (H.2 j (ready_mono hj hji))
      refine wpOp_mono (fun a' w' h3 => ⟨h3.2.1, ih (listed.setIfInBounds j true) a' w' (fun k ok hk hki hun hno => ?_) (ready_mono hr (Ne.symm hji)) h3.1 (h3.2.1 hjL) ?_⟩) h2
      · refine hfree k ok hk hki ?_ hno
        by_cases hjk : j = k
        · subst hjk; exact hjun
        · rw [getD_set_ne true hjk] at hun; exact hun
      · rw [Array.setIfInBounds_comm _ _ hji]
        exact h3.2.2
theorem wpAnyT_take {i : Nat} {oi : Oper} {v : Value} {fuel : Nat} {listed : Array Bool} {a : Act} {w : World} (hi : ops[i]? = some oi)
    (hs : Region.noSelect ops = true) (hf : Region.free md ops listed i = true) (hr : (Region.ready md ops listed).contains i = true) (hwl : Region.waitsFor md ops L i = true)
    (hQ : ∀ c a w, Q (.panic c) (a.put oi.dst v) w → Q (.panic c) a w) (hy : YieldsIf P ops S oi v a) (hS : S w)
    (h : wpAnyT P md ops Q S L fuel (listed.setIfInBounds i true) (a.put oi.dst v) w) : wpAnyT P md ops Q S L (fuel + 1) listed a w :=
  wpAnyT_first hi (Region.noSelect_spec hs) hQ hwl fuel listed a w (Region.free_spec hi hf) (by simpa using hr) hy hS h
/-- one operation alone may come up -/
theorem wpAnyT_one {i : Nat} {o : Oper} {fuel : Nat} {listed : Array Bool} {a : Act} {w : World} (ho : ops[i]? = some o) (hr : Region.ready md ops listed = [i])
    (h : ∀ K' : Act → World → Prop, Shut (∀ a w, (i ≠ L → S w) → wpAnyT P md ops Q S L fuel (listed.setIfInBounds i true) a w → K' a w) → if Region.wanted o (yielded ops a.tmps) = true then Oper.wp P o a w K' Q else K' (a.put o.dst undef) w) :
    wpAnyT P md ops Q S L (fuel + 1) listed a w :=
  ⟨fun h0 => (by rw [hr] at h0; cases h0), fun j hj => by
    rw [hr] at hj
    obtain rfl : j = i := by simpa using hj
    exact wpOp_step ho (fun K' hK => h K' (fun a w hS hW => hK a w ⟨hS, hW⟩))⟩
theorem wpAnyT_done {listed : Array Bool} {a : Act} {w : World} (hr : Region.ready md ops listed = []) (h : Q .normal a w) : ∀ fuel, wpAnyT P md ops Q S L fuel listed a w
  | 0 => ⟨hr, h⟩
  | _ + 1 => ⟨fun _ => h, by rw [hr]; simp⟩
theorem wp_region_tail {id : Nat} {a : Act} {w : World} (S : World → Prop) (L : Nat) (hm : P.follows .mixedOrders = true)
    (h : wpAnyT P .any ops Q S L ops.size (Array.replicate ops.size false) a w.drew) : (Code.region id ops true).wp P Q a w :=
  wp_region_any hm (wpAny_of_T _ _ _ _ h)
end
end G294

/- The row of a node: nodeNumber, nodeFactor, hasNode, powerRow, MsrRow; the model's l5X, l5F, l5Short, l5Row, MsrRow. -/
namespace G294
open Go Go.RowKit
def nodeOk (n k i : Int) : Bool := msrOk n k && decide (0 ≤ i ∧ i < n)
theorem nodeOk_b {n k i : Int} (h : nodeOk n k i = true) : msrOk n k = true ∧ 0 ≤ i ∧ i < n := by simpa [nodeOk] using h
def rowR (n k i : Int) : List UInt8 := if nodeOk n k i = true then rowL (k - 1).toNat i.toNat else []
theorem rowR_no {n k i : Int} (h : nodeOk n k i = false) : rowR n k i = [] := if_neg (by rw [h]; simp)
theorem rowR_yes {n : Int} {a i : Nat} (h : nodeOk n ((a : Int) + 1) i = true) : rowR n ((a : Int) + 1) i = rowL a i := by unfold rowR; rw [if_pos h]; congr 1; omega
theorem rowR_len (n k i : Int) : (rowR n k i).length ≤ 6 := by
  unfold rowR; split
  · rename_i h
    have := msrOk_b (nodeOk_b h).1
    rw [rowL_length]; omega
  · simp
end G294
namespace Go.Proofs.YtbopocpmodpfcaaDoor
open Go.RowKit G294

theorem l1Power_u8 (x : UInt8) (a : Nat) (ha : a ≤ 1000) (w : World) : Calls Tryd.prog 56 #[.int .u8 (x.toNat : Int), .int .i64 a] w fun e w' => e = .returned (.int .u8 ((powB x a).toNat : Int)) ∧ w = w' := by
  have h := l1Power_any x.toNat a x.toNat_lt (by omega) w
  rw [powB_toNat]; exact h

theorem powerOf_u8 (x : UInt8) (a : Nat) (ha : a ≤ 1000) (w : World) (ht : Tab w) : Calls Tryd.prog 101 #[.int .u8 (x.toNat : Int), .int .i64 a] w fun e w' => e = .returned (.int .u8 ((powB x a).toNat : Int)) ∧ w = w' := by
  have h := powerOf_any x.toNat a x.toNat_lt (by omega) w ht
  rw [powB_toNat]; exact h

end Go.Proofs.YtbopocpmodpfcaaDoor

/- MsrRow, the program's and the model's. -/
namespace G294
open Go Go.RowKit
/-- a literal of two bytes -/
theorem seen_duo (w : World) (x y : UInt8) (T : TypeId) : Seen (w.alloc (.cells #[.int .u8 (x.toNat : Int), .int .u8 (y.toNat : Int)] T)) (.slice (some ⟨w.heap.size, 0, none⟩) 2 2) (bys [x, y]) := by
  refine ⟨_, _, rfl, by simp [bys], by unfold maxLen; omega, fun _ => ⟨w.heap.size, 0, rfl, by simp, fun i u hu => ?_⟩⟩
  match i, hu with
  | 0, hu => simp only [bys, List.map_cons, List.getElem?_cons_zero, Option.some.injEq] at hu; subst hu; exact alloc_duo0 _ _ _ _
  | 1, hu => simp only [bys, List.map_cons, List.getElem?_cons_succ, List.getElem?_cons_zero, Option.some.injEq] at hu; subst hu; exact alloc_duo1 _ _ _ _
  | i + 2, hu => simp [bys] at hu
theorem seen_one (w : World) (x : UInt8) (T : TypeId) : Seen (w.alloc (.cells #[.int .u8 (x.toNat : Int)] T)) (.slice (some ⟨w.heap.size, 0, none⟩) 1 1) (bys [x]) := by
  refine ⟨_, _, rfl, by simp [bys], by unfold maxLen; omega, fun _ => ⟨w.heap.size, 0, rfl, by simp, fun i u hu => ?_⟩⟩
  match i, hu with
  | 0, hu => simp only [bys, List.map_cons, List.getElem?_cons_zero, Option.some.injEq] at hu; subst hu; exact alloc_cell _ _ _
  | i + 1, hu => simp [bys] at hu
end G294
namespace Go.Proofs.YtbopocpmodpfcaaDoor
open Go.RowKit G294

end Go.Proofs.YtbopocpmodpfcaaDoor

/- Contracts of DotVectors, the program's and the model's. -/
namespace Go.Proofs.YtbopocpmodpfcaaDoor
open Go.RowKit G294

end Go.Proofs.YtbopocpmodpfcaaDoor
