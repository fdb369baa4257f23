/- shardsBy: the iterator over the shards that a matrix makes of texts. -/
import Derived.RangeFuncNested
import Derived.RangeFuncBound
import Derived.RangeFuncCalls
import Derived.RangeFuncLeaves
import Derived.Shelf.Abstract
import Derived.Shelf.RegionOpen
import Derived.WalkKit
import Derived.OwnWalkIn
import Derived.TacticsInMore
import Derived.LoopNIn
import Derived.LoopIn
import Derived.Test.YtipmfebnjmobfaaDoorSpecRows
import Derived.Test.YtipmfebnjmobfaaDoorShardMem
set_option linter.unusedSimpArgs false
set_option linter.unusedVariables false
namespace G294
open Go Go.RowKit
/-- the shards that a matrix makes of texts -/
def shardsF (r c n : Nat) (F : Ents) (T : List (List UInt8)) : List Sh := (List.range r).map fun (i : Nat) => (((i : Nat) : Int), comb c n (F i) T)
@[simp] theorem shardsF_length (r c n : Nat) (F : Ents) (T : List (List UInt8)) : (shardsF r c n F T).length = r := by simp [shardsF]
theorem shardsF_take (r c n : Nat) (F : Ents) (T : List (List UInt8)) (k : Nat) (h : k < r) : (shardsF r c n F T).take (k + 1) = (shardsF r c n F T).take k ++ [((k : Int), comb c n (F k) T)] := by
  rw [List.take_succ_eq_append_getElem (by simpa using h)]; simp [shardsF]
/-- a shard as a value -/
def shV (x : Sh) : Value := .agg #[.int .i64 x.1, .string (str x.2)]
/-- what lies below n₀, but for one block, is as it was -/
structure KeepBut (n₀ Bs : Nat) (W W' : World) : Prop where
  os : W'.os = W.os
  tape : W'.tape = W.tape
  output : W'.output = W.output
  size : W.heap.size ≤ W'.heap.size
  block : ∀ k, k < n₀ → k ≠ Bs → W'.heap[k]? = W.heap[k]?
theorem KeepBut.trans {n₀ Bs : Nat} {A B C : World} (h : KeepBut n₀ Bs A B) (k : KeepBut n₀ Bs B C) : KeepBut n₀ Bs A C :=
  ⟨k.os.trans h.os, k.tape.trans h.tape, k.output.trans h.output, Nat.le_trans h.size k.size, fun i hi hne => (k.block i hi hne).trans (h.block i hi hne)⟩
theorem KeepBut.refl (n₀ Bs : Nat) (W : World) : KeepBut n₀ Bs W W := ⟨rfl, rfl, rfl, Nat.le_refl _, fun _ _ _ => rfl⟩
theorem KeepBut.of_below {n₀ Bs : Nat} {W W' : World} (h : Below n₀ W W') : KeepBut n₀ Bs W W' := ⟨h.os, h.tape, h.output, h.size, fun k hk _ => h.block k hk⟩
theorem KeepBut.putObj {n₀ Bs : Nat} {w : World} (hn : n₀ ≤ w.heap.size) (W : World) (l : Nat) (o o' : Obj) (hl : w.heap.size ≤ l) (h : W.heap[l]? = some o) (h1 : o.isCells = false) (h2 : o.isWalk = false) : KeepBut n₀ Bs W (W.putObj l o') :=
  KeepBut.of_below (belowK_b hn W l o o' hl h h1 h2)
theorem KeepBut.cell {n₀ Bs B o : Nat} {W W' : World} (h : KeepBut n₀ Bs W W') (hB : B < n₀) (hne : B ≠ Bs) : W'.cell? ⟨B, o, none⟩ = W.cell? ⟨B, o, none⟩ := World.cell?_of_block (h.block B hB hne)
theorem KeepBut.below {n₀ Bs e : Nat} {w W W' : World} (h : KeepBut n₀ Bs W W') (hb : Below e w W) (h1 : e ≤ Bs) (h2 : e ≤ n₀) : Below e w W' :=
  ⟨h.os.trans hb.os, h.tape.trans hb.tape, h.output.trans hb.output, Nat.le_trans hb.size h.size, fun k hk => (h.block k (by omega) (by omega)).trans (hb.block k hk)⟩
theorem owns_agree {w w' : World} {lo hi size n : Nat} {E : TypeId} {v : Value} {xs : List Value} (h : w.ownsRow lo E size v n xs) (h2 : ∀ g, v.ownBlock = some g → g < hi) (hb : ∀ k, lo ≤ k → k < hi → w'.heap[k]? = w.heap[k]?) : w'.ownsRow lo E size v n xs := by
  refine ⟨h.1, ?_⟩
  rcases h.2 with hn | ⟨g, cap, cur, rfl, hbg, hg, rest⟩
  · exact .inl hn
  · refine .inr ⟨g, cap, cur, rfl, hbg, ?_, rest⟩
    rw [hb g hbg (h2 g rfl)]
    exact hg
theorem OwnM.agree {E EE : TypeId} {w w' : World} {lo hi : Nat} {v : Value} {L : Mat} {vs : List Value} (h : OwnM E EE w lo hi v L vs) (hs : w.heap.size ≤ w'.heap.size) (hb : ∀ k, lo ≤ k → k < hi → w'.heap[k]? = w.heap[k]?) : OwnM E EE w' lo hi v L vs :=
  ⟨owns_agree h.row h.out hb, Nat.le_trans h.top hs, h.out, fun i u hu => ⟨owns_agree (h.rows i u hu).1 (h.rows i u hu).2.2 hb, Nat.le_trans h.top hs, (h.rows i u hu).2.2⟩, h.apart⟩
theorem OwnStrs.agree {E : TypeId} {w w' : World} {lo hi : Nat} {v : Value} {l : List (List UInt8)} (h : OwnStrs E w lo hi v l) (hs : w.heap.size ≤ w'.heap.size) (hb : ∀ k, lo ≤ k → k < hi → w'.heap[k]? = w.heap[k]?) : OwnStrs E w' lo hi v l :=
  ⟨owns_agree h.1 h.2.2 hb, Nat.le_trans h.2.1 hs, h.2.2⟩
/-- one more element in a boxed row that a loop collects -/
theorem collect_step {W w1 : World} {n₀ Bs e0 size : Nat} {t e : TypeId} {v v' : Value} {k mm : Nat} {xs ys : List Value} {tmp : Obj} (hv : Boxed W Bs t v) (hte : t ≠ e) (hrow : W.ownsRow n₀ e size v k xs)
    (hown' : w1.ownsRow n₀ e size v' mm ys) (hgrow : (W.alloc tmp).grownBy w1 v.ownBlock) (h1 : e0 ≤ Bs) (h2 : Bs < n₀) (h3 : n₀ ≤ W.heap.size) :
    Boxed w1 Bs t v ∧ Boxed (w1.setCell ⟨Bs, 0, none⟩ v') Bs t v' ∧ (w1.setCell ⟨Bs, 0, none⟩ v').ownsRow n₀ e size v' mm ys ∧ KeepsOthers W (w1.setCell ⟨Bs, 0, none⟩ v') ∧ KeepBut n₀ Bs W (w1.setCell ⟨Bs, 0, none⟩ v') ∧ n₀ ≤ (w1.setCell ⟨Bs, 0, none⟩ v').heap.size := by
  obtain ⟨hv1, hv2, hr2, hk2, hb2⟩ := hv.appended (n₀ := e0) hte (own_base hrow (by omega)) (by omega) h1 (own_base hown' (by omega)) hgrow
  have hs := hgrow.size
  have hsa := World.size_alloc W tmp
  refine ⟨hv1, hv2, hown'.kept (grownBy_setCell' w1 Bs v') (.inr (fun e' => by have := (hown'.lt Bs e').1; omega)), hk2, ⟨hb2.os, hb2.tape, hb2.output, hb2.size, fun j hj hne => ?_⟩, by simp; omega⟩
  have t1 := (grownBy_setCell' w1 Bs v').block j (by omega) (fun e' => hne (by cases e'; rfl))
  have t2 := hgrow.block j (by omega) (fun e' => by have := (hrow.lt j e'.symm).1; omega)
  have t3 := (turn_alloc W tmp).block j (by omega) (by omega)
  exact t1.trans (t2.trans t3)
end G294
namespace Go.Proofs.YtipmfebnjmobfaaDoor
open Go.RowKit Go.Shelf G294

attribute [local go_sem] Oper.semAt_some

set_option maxRecDepth 100000 in
set_option maxHeartbeats 1000000 in
/-- shardsBy boxes its arguments and hands back the function -/
theorem shardsBy_any (vm : Value) (At : Option Addr) (nt ct : Nat) (w : World) : Calls Tryd.prog 82 #[.agg #[vm], .slice At nt ct] w fun e w' => e = .returned (.func (.func 124) #[] #[.pointer (some ⟨w.heap.size, 0, none⟩), .pointer (some ⟨w.heap.size + 1, 0, none⟩)]) ∧
    w' = (w.alloc (.cells #[vm] 60)).alloc (.cells #[.slice At nt ct] 24) := by
  go_enter Tryd.func82, Tryd.ntmps82
  go_wp2_with fail
  go_ret
  exact ⟨rfl, rfl⟩

set_option maxRecDepth 100000 in
set_option maxHeartbeats 4000000 in
theorem shardsBy_stops (nF r c n Bm Bt : Nat) (F : Ents) (T : List (List UInt8)) (vm vt : Value) (w : World) (Kp : World → World → Prop) (Inv : World → Prop) (hc : T.length = c) (hc1 : 1 ≤ c) (hcc : c ≤ 1000) (hr : r ≤ 1000)
    (hn : ∀ j, j < c → (T.getD j []).length = n) (hn2 : n ≤ 1000)
    (hInv : ∀ W, Inv W → (W.cell? ⟨Bm, 0, none⟩ = some vm ∧ W.cell? ⟨Bt, 0, none⟩ = some vt) ∧ (SeenM W vm (mkM r c F) ∧ Seen W vt (strs T)) ∧ Tab W ∧ 1 < W.heap.size)
    (hKp : ∀ W W', Inv W → Kp W W' → Inv W') (hBel : ∀ W W', Inv W → Below W.heap.size W W' → Inv W') (hw : ∀ W, Below w.heap.size w W → Inv W) (hnF : 1 ≤ nF) :
    SeqStopsK Fence.wide nF Tryd.prog 124 #[.pointer (some ⟨Bm, 0, none⟩), .pointer (some ⟨Bt, 0, none⟩)] (fun x : Sh => #[shV x]) Kp (fun xs => xs = shardsF r c n F T) (fun pre => pre <+: shardsF r c n F T) r w := by
  intro l J Jx W hW hJ hJx hY h0
  have hiv := hw W hW
  obtain ⟨⟨cm, ct⟩, ⟨sm, st⟩, tb, hrm⟩ := hInv W hiv
  obtain ⟨A, cp, rfl, hlc, hcm⟩ := sm.len
  rw [mkM_length] at hlc
  unfold maxLen at hcm
  rw [mkM_length] at *
  have HINV := Lib.hid hInv
  have HKP := Lib.hid hKp
  have HBEL := Lib.hid hBel
  have HY := Lib.hid hY
  clear hInv hKp hBel hY st tb sm hw
  refine callsIn_of_wp Tryd.func124 rfl trivial ?_ rfl
  simp only [Tryd.ntmps124, List.size_toArray, List.length_cons, List.length_nil, Nat.reduceAdd, Nat.reduceSub, Array.replicate_succ, Array.replicate_zero, List.push_toArray, List.append_toArray, List.nil_append, List.cons_append]
  gi_wp2_with fail
  gi_loopw [9] (fun i wr => ∃ k : Nat, k ≤ r ∧ i = .int .i64 k ∧ Inv wr ∧ J ((shardsF r c n F T).take k) wr) (fun i _ => r - (intOf i).toNat)
  case atStart => exact ⟨0, Nat.zero_le _, rfl, hiv, h0⟩
  case round =>
    obtain ⟨k, hk, rfl, hi, hj⟩ := hrel
    clear hiv h0 cm ct hrm
    by_cases hlt : k < r
    · have hki : (k : Int) < (r : Int) := by omega
      obtain ⟨⟨cm, ct⟩, ⟨sm, st⟩, tb, hrm⟩ := HINV.out _ hi
      obtain ⟨bb, off, c9, A1, c1, hvv, _, hbb, hcx, hc9, hsr⟩ := sm.rowF k hlt
      simp only [Value.slice.injEq] at hvv
      obtain ⟨rfl, z9, rfl⟩ := hvv
      have HSR := Lib.hid hsr
      have HST := Lib.hid st
      have HTB := Lib.hid tb
      have HHN := Lib.hid hn
      clear z9 sm st tb hsr hn
      gi_wp2_with fail
      refine ⟨trivial, ?_⟩
      refine (callsIn_wide.2 (combined_own c n (F k) T _ _ _ HSR.out HST.out hc hc1 hcc HHN.out hn2 HTB.out hrm)).mono ?_
      rintro e w2 ⟨rfl, k2⟩
      have hi2 := HBEL.out _ _ hi k2.to_below
      have hj2 := hJ _ _ w2 none hj (grown_of_below k2.to_below) (fun r e => by cases e)
      have hs2 := k2.size
      obtain ⟨fn, tmps, assign, body, hy, hR⟩ := HY.out _ ((k : Int), comb c n (F k) T) w2 hj2 (by rw [List.length_take, shardsF_length]; omega)
      have HR := Lib.hid hR
      have hpre : (shardsF r c n F T).take k ++ [((k : Int), comb c n (F k) T)] = (shardsF r c n F T).take (k + 1) := (shardsF_take r c n F T k hlt).symm
      have HPRE := Lib.hid hpre
      simp only [shV] at hy
      clear hR hpre cm ct hcx k2
      gi_wp2_with fail
      refine HR.out.mono ?_
      rintro e W3 (⟨rfl, hJ3, hk3⟩ | ⟨rfl, hJx3⟩)
      · have hi3 := HKP.out _ _ hi2 hk3
        rw [HPRE.out] at hJ3
        gi_wp2_with fail
        go_roundw
        case rel => exact ⟨k + 1, by omega, by go_num, hi3, hJ3⟩
        case measure => simp [intOf]; omega
      · gi_wp2_with fail
        refine bodyPost_ret (results_none rfl _ _ _) rfl ?_
        exact ⟨⟨_, rfl⟩, .inr ⟨_, by rw [HPRE.out]; exact List.take_prefix _ _, hJx3⟩⟩
    · obtain rfl : k = r := by omega
      have hki : ¬ (k : Int) < (k : Int) := by omega
      gi_wp2_with fail
      go_end0
      exact ⟨⟨_, rfl⟩, .inl (by rw [List.take_of_length_le (by simp)] at hj; exact hj)⟩

end Go.Proofs.YtipmfebnjmobfaaDoor
