/- Joined texts: Keeps, Iter, EncMath, SpecEncode, SpecDecode, SpecDecode2, Numbers. -/
import Derived.RangeFuncNested
import Derived.RangeFuncBound
import Derived.RangeFuncCalls
import Derived.RangeFuncLeaves
import Derived.Shelf.Abstract
import Derived.Shelf.RegionOpen
import Derived.WalkKit
import Derived.OwnWalkIn
import Derived.TacticsInMore
import Derived.LoopNIn
import Derived.LoopIn
import Derived.Test.YtjklngheehhggaaDoorBd00
import Derived.Test.YtjklngheehhggaaDoorBd05
import Derived.Test.YtjklngheehhggaaDoorBd02
import Derived.Test.YtjklngheehhggaaDoorBd06
import Derived.Test.YtjklngheehhggaaDoorBd09
import Derived.Test.YtjklngheehhggaaDoorBd10
import Derived.Test.YtjklngheehhggaaDoorBd12
import Derived.Test.YtjklngheehhggaaDoorBd14
set_option linter.unusedSimpArgs false
set_option linter.unusedVariables false
/- What a round of a range over a function keeps. -/
namespace G294
open Go Go.RowKit
/-- what lies below n₀, but for one block, is as it was -/
structure KeepBut (n₀ Bs : Nat) (W W' : World) : Prop where
  os : W'.os = W.os
  tape : W'.tape = W.tape
  output : W'.output = W.output
  size : W.heap.size ≤ W'.heap.size
  block : ∀ k, k < n₀ → k ≠ Bs → W'.heap[k]? = W.heap[k]?
theorem KeepBut.trans {n₀ Bs : Nat} {A B C : World} (h : KeepBut n₀ Bs A B) (k : KeepBut n₀ Bs B C) : KeepBut n₀ Bs A C :=
  ⟨k.os.trans h.os, k.tape.trans h.tape, k.output.trans h.output, Nat.le_trans h.size k.size, fun i hi hne => (k.block i hi hne).trans (h.block i hi hne)⟩
theorem KeepBut.refl (n₀ Bs : Nat) (W : World) : KeepBut n₀ Bs W W := ⟨rfl, rfl, rfl, Nat.le_refl _, fun _ _ _ => rfl⟩
theorem KeepBut.of_below {n₀ Bs : Nat} {W W' : World} (h : Below n₀ W W') : KeepBut n₀ Bs W W' := ⟨h.os, h.tape, h.output, h.size, fun k hk _ => h.block k hk⟩
theorem KeepBut.putObj {n₀ Bs : Nat} {w : World} (hn : n₀ ≤ w.heap.size) (W : World) (l : Nat) (o o' : Obj) (hl : w.heap.size ≤ l) (h : W.heap[l]? = some o) (h1 : o.isCells = false) (h2 : o.isWalk = false) : KeepBut n₀ Bs W (W.putObj l o') :=
  KeepBut.of_below (belowK_b hn W l o o' hl h h1 h2)
theorem KeepBut.cell {n₀ Bs B o : Nat} {W W' : World} (h : KeepBut n₀ Bs W W') (hB : B < n₀) (hne : B ≠ Bs) : W'.cell? ⟨B, o, none⟩ = W.cell? ⟨B, o, none⟩ := World.cell?_of_block (h.block B hB hne)
theorem KeepBut.below {n₀ Bs e : Nat} {w W W' : World} (h : KeepBut n₀ Bs W W') (hb : Below e w W) (h1 : e ≤ Bs) (h2 : e ≤ n₀) : Below e w W' :=
  ⟨h.os.trans hb.os, h.tape.trans hb.tape, h.output.trans hb.output, Nat.le_trans hb.size h.size, fun k hk => (h.block k (by omega) (by omega)).trans (hb.block k hk)⟩
theorem owns_agree {w w' : World} {lo hi size n : Nat} {E : TypeId} {v : Value} {xs : List Value} (h : w.ownsRow lo E size v n xs) (h2 : ∀ g, v.ownBlock = some g → g < hi) (hb : ∀ k, lo ≤ k → k < hi → w'.heap[k]? = w.heap[k]?) : w'.ownsRow lo E size v n xs := by
  refine ⟨h.1, ?_⟩
  rcases h.2 with hn | ⟨g, cap, cur, rfl, hbg, hg, rest⟩
  · exact .inl hn
  · refine .inr ⟨g, cap, cur, rfl, hbg, ?_, rest⟩
    rw [hb g hbg (h2 g rfl)]
    exact hg
/-- one more element in a boxed row that a loop collects -/
theorem collect_step {W w1 : World} {n₀ Bs e0 size : Nat} {t e : TypeId} {v v' : Value} {k mm : Nat} {xs ys : List Value} {tmp : Obj} (hv : Boxed W Bs t v) (hte : t ≠ e) (hrow : W.ownsRow n₀ e size v k xs)
    (hown' : w1.ownsRow n₀ e size v' mm ys) (hgrow : (W.alloc tmp).grownBy w1 v.ownBlock) (h1 : e0 ≤ Bs) (h2 : Bs < n₀) (h3 : n₀ ≤ W.heap.size) :
    Boxed w1 Bs t v ∧ Boxed (w1.setCell ⟨Bs, 0, none⟩ v') Bs t v' ∧ (w1.setCell ⟨Bs, 0, none⟩ v').ownsRow n₀ e size v' mm ys ∧ KeepsOthers W (w1.setCell ⟨Bs, 0, none⟩ v') ∧ KeepBut n₀ Bs W (w1.setCell ⟨Bs, 0, none⟩ v') ∧ n₀ ≤ (w1.setCell ⟨Bs, 0, none⟩ v').heap.size := by
  obtain ⟨hv1, hv2, hr2, hk2, hb2⟩ := hv.appended (n₀ := e0) hte (own_base hrow (by omega)) (by omega) h1 (own_base hown' (by omega)) hgrow
  have hs := hgrow.size
  have hsa := World.size_alloc W tmp
  refine ⟨hv1, hv2, hown'.kept (grownBy_setCell' w1 Bs v') (.inr (fun e' => by have := (hown'.lt Bs e').1; omega)), hk2, ⟨hb2.os, hb2.tape, hb2.output, hb2.size, fun j hj hne => ?_⟩, by simp; omega⟩
  have t1 := (grownBy_setCell' w1 Bs v').block j (by omega) (fun e' => hne (by cases e'; rfl))
  have t2 := hgrow.block j (by omega) (fun e' => by have := (hrow.lt j e'.symm).1; omega)
  have t3 := (turn_alloc W tmp).block j (by omega) (by omega)
  exact t1.trans (t2.trans t3)
end G294

/- shardsBy: the iterator over the shards that a matrix makes of texts. -/
namespace G294
open Go Go.RowKit
/-- the shards that a matrix makes of texts -/
def shardsF (r c n : Nat) (F : Ents) (T : List (List UInt8)) : List Sh := (List.range r).map fun (i : Nat) => (((i : Nat) : Int), comb c n (F i) T)
@[simp] theorem shardsF_length (r c n : Nat) (F : Ents) (T : List (List UInt8)) : (shardsF r c n F T).length = r := by simp [shardsF]
theorem shardsF_take (r c n : Nat) (F : Ents) (T : List (List UInt8)) (k : Nat) (h : k < r) : (shardsF r c n F T).take (k + 1) = (shardsF r c n F T).take k ++ [((k : Int), comb c n (F k) T)] := by
  rw [List.take_succ_eq_append_getElem (by simpa using h)]; simp [shardsF]
/-- a shard as a value -/
def shV (x : Sh) : Value := .agg #[.int .i64 x.1, .string (str x.2)]
theorem OwnM.agree {E EE : TypeId} {w w' : World} {lo hi : Nat} {v : Value} {L : Mat} {vs : List Value} (h : OwnM E EE w lo hi v L vs) (hs : w.heap.size ≤ w'.heap.size) (hb : ∀ k, lo ≤ k → k < hi → w'.heap[k]? = w.heap[k]?) : OwnM E EE w' lo hi v L vs :=
  ⟨owns_agree h.row h.out hb, Nat.le_trans h.top hs, h.out, fun i u hu => ⟨owns_agree (h.rows i u hu).1 (h.rows i u hu).2.2 hb, Nat.le_trans h.top hs, (h.rows i u hu).2.2⟩, h.apart⟩
theorem OwnStrs.agree {E : TypeId} {w w' : World} {lo hi : Nat} {v : Value} {l : List (List UInt8)} (h : OwnStrs E w lo hi v l) (hs : w.heap.size ≤ w'.heap.size) (hb : ∀ k, lo ≤ k → k < hi → w'.heap[k]? = w.heap[k]?) : OwnStrs E w' lo hi v l :=
  ⟨owns_agree h.1 h.2.2 hb, Nat.le_trans h.2.1 hs, h.2.2⟩
end G294
namespace Go.Proofs.YtjklngheehhggaaDoor
open Go.RowKit Go.Shelf G294

attribute [local go_sem] Oper.semAt_some

set_option maxRecDepth 100000 in
set_option maxHeartbeats 1000000 in
/-- shardsBy boxes its arguments and hands back the function -/
theorem shardsBy_any (vm : Value) (At : Option Addr) (nt ct : Nat) (w : World) : Calls Tryd.prog 152 #[.agg #[vm], .slice At nt ct] w fun e w' => e = .returned (.func (.func 192) #[] #[.pointer (some ⟨w.heap.size, 0, none⟩), .pointer (some ⟨w.heap.size + 1, 0, none⟩)]) ∧
    w' = (w.alloc (.cells #[vm] 79)).alloc (.cells #[.slice At nt ct] 23) := by
  go_enter Tryd.func152, Tryd.ntmps152
  go_wp2_with fail
  go_ret
  exact ⟨rfl, rfl⟩

set_option maxRecDepth 100000 in
set_option maxHeartbeats 4000000 in
theorem shardsBy_stops (nF r c n Bm Bt : Nat) (F : Ents) (T : List (List UInt8)) (vm vt : Value) (w : World) (Kp : World → World → Prop) (Inv : World → Prop) (hc : T.length = c) (hc1 : 1 ≤ c) (hcc : c ≤ 1000) (hr : r ≤ 1000)
    (hn : ∀ j, j < c → (T.getD j []).length = n) (hn2 : n ≤ 1000)
    (hInv : ∀ W, Inv W → (W.cell? ⟨Bm, 0, none⟩ = some vm ∧ W.cell? ⟨Bt, 0, none⟩ = some vt) ∧ (SeenM W vm (mkM r c F) ∧ Seen W vt (strs T)) ∧ Tab W ∧ 1 < W.heap.size)
    (hKp : ∀ W W', Inv W → Kp W W' → Inv W') (hBel : ∀ W W', Inv W → Below W.heap.size W W' → Inv W') (hw : ∀ W, Below w.heap.size w W → Inv W) (hnF : 1 ≤ nF) :
    SeqStopsK Fence.wide nF Tryd.prog 192 #[.pointer (some ⟨Bm, 0, none⟩), .pointer (some ⟨Bt, 0, none⟩)] (fun x : Sh => #[shV x]) Kp (fun xs => xs = shardsF r c n F T) (fun pre => pre <+: shardsF r c n F T) r w := by
  intro l J Jx W hW hJ hJx hY h0
  have hiv := hw W hW
  obtain ⟨⟨cm, ct⟩, ⟨sm, st⟩, tb, hrm⟩ := hInv W hiv
  obtain ⟨A, cp, rfl, hlc, hcm⟩ := sm.len
  rw [mkM_length] at hlc
  unfold maxLen at hcm
  rw [mkM_length] at *
  have HINV := Lib.hid hInv
  have HKP := Lib.hid hKp
  have HBEL := Lib.hid hBel
  have HY := Lib.hid hY
  clear hInv hKp hBel hY st tb sm hw
  refine callsIn_of_wp Tryd.func192 rfl trivial ?_ rfl
  simp only [Tryd.ntmps192, List.size_toArray, List.length_cons, List.length_nil, Nat.reduceAdd, Nat.reduceSub, Array.replicate_succ, Array.replicate_zero, List.push_toArray, List.append_toArray, List.nil_append, List.cons_append]
  gi_wp2_with fail
  gi_loopw [9] (fun i wr => ∃ k : Nat, k ≤ r ∧ i = .int .i64 k ∧ Inv wr ∧ J ((shardsF r c n F T).take k) wr) (fun i _ => r - (intOf i).toNat)
  case atStart => exact ⟨0, Nat.zero_le _, rfl, hiv, h0⟩
  case round =>
    obtain ⟨k, hk, rfl, hi, hj⟩ := hrel
    clear hiv h0 cm ct hrm
    by_cases hlt : k < r
    · have hki : (k : Int) < (r : Int) := by omega
      obtain ⟨⟨cm, ct⟩, ⟨sm, st⟩, tb, hrm⟩ := HINV.out _ hi
      obtain ⟨bb, off, c9, A1, c1, hvv, _, hbb, hcx, hc9, hsr⟩ := sm.rowF k hlt
      simp only [Value.slice.injEq] at hvv
      obtain ⟨rfl, z9, rfl⟩ := hvv
      have HSR := Lib.hid hsr
      have HST := Lib.hid st
      have HTB := Lib.hid tb
      have HHN := Lib.hid hn
      clear z9 sm st tb hsr hn
      gi_wp2_with fail
      refine ⟨trivial, ?_⟩
      refine (callsIn_wide.2 (combined_own c n (F k) T _ _ _ HSR.out HST.out hc hc1 hcc HHN.out hn2 HTB.out hrm)).mono ?_
      rintro e w2 ⟨rfl, k2⟩
      have hi2 := HBEL.out _ _ hi k2.to_below
      have hj2 := hJ _ _ w2 none hj (grown_of_below k2.to_below) (fun r e => by cases e)
      have hs2 := k2.size
      obtain ⟨fn, tmps, assign, body, hy, hR⟩ := HY.out _ ((k : Int), comb c n (F k) T) w2 hj2 (by rw [List.length_take, shardsF_length]; omega)
      have HR := Lib.hid hR
      have hpre : (shardsF r c n F T).take k ++ [((k : Int), comb c n (F k) T)] = (shardsF r c n F T).take (k + 1) := (shardsF_take r c n F T k hlt).symm
      have HPRE := Lib.hid hpre
      simp only [shV] at hy
      clear hR hpre cm ct hcx k2
      gi_wp2_with fail
      refine HR.out.mono ?_
      rintro e W3 (⟨rfl, hJ3, hk3⟩ | ⟨rfl, hJx3⟩)
      · have hi3 := HKP.out _ _ hi2 hk3
        rw [HPRE.out] at hJ3
        gi_wp2_with fail
        go_roundw
        case rel => exact ⟨k + 1, by omega, by go_num, hi3, hJ3⟩
        case measure => simp [intOf]; omega
      · gi_wp2_with fail
        refine bodyPost_ret (results_none rfl _ _ _) rfl ?_
        exact ⟨⟨_, rfl⟩, .inr ⟨_, by rw [HPRE.out]; exact List.take_prefix _ _, hJx3⟩⟩
    · obtain rfl : k = r := by omega
      have hki : ¬ (k : Int) < (k : Int) := by omega
      gi_wp2_with fail
      go_end0
      exact ⟨⟨_, rfl⟩, .inl (by rw [List.take_of_length_le (by simp)] at hj; exact hj)⟩

end Go.Proofs.YtjklngheehhggaaDoor

/- The mathematics of EncodeShards. -/
namespace G294
open Go Go.RowKit
def encOk (T : List (List UInt8)) (m : Int) : Bool := shapeOk T.length m && textsOk T
def encL (k m : Nat) (T : List (List UInt8)) : List Sh := shardsF (k + m) k (T.getD 0 []).length (codF k) T
def encR (T : List (List UInt8)) (m : Int) : List Sh := if encOk T m then encL T.length m.toNat T else []
theorem encR_no {T : List (List UInt8)} {m : Int} (h : encOk T m = false) : encR T m = [] := by unfold encR; rw [if_neg (by rw [h]; simp)]
theorem encR_yes {T : List (List UInt8)} {m : Nat} (h : encOk T m = true) : encR T m = encL T.length m T := by unfold encR; rw [if_pos h]; simp
theorem textsOk_at {T : List (List UInt8)} (h : textsOk T = true) : ∀ j, j < T.length → (T.getD j []).length = (T.getD 0 []).length := fun j hj => by
  have := ((textsOk_iff T).1 h j hj).1
  rw [← this]; simp [List.getD, hj]
theorem encR_len (T : List (List UInt8)) (m : Int) : (encR T m).length ≤ 14 := by
  unfold encR; split
  · rename_i h
    simp only [encOk, Bool.and_eq_true] at h
    have := shapeOk_b h.1
    simp [encL]; omega
  · simp
end G294

/- EncodeShards: the model's. -/
namespace G294
open Go Go.RowKit
theorem shards_rows (r c n : Nat) (F : Ents) (T : List (List UInt8)) (k : Nat) (h : k < r) : (rowsT r c n F T)[k]? = some (comb c n (F k) T) := by
  simp [rowsT, mkM, h, comb]
/-- append(s, x) of one struct of two cells, onto a row of the call's own -/
theorem wpList_append2 {P : Program} {w : World} {ops : Array Oper} {rest : List Oper} {o : Oper} {a : Act} {Q : Exit → Act → World → Prop} (hgd : o.guard = none) (s x : Operand) (t : TypeId)
    (ho : o.op = .call { callee := .builtin .append, args := #[s, x], argTypes := #[t, t] })
    (base : Nat) (e : TypeId) (z : Value) (bytes : Nat) (ht : P.underlying t = some (.slice e)) (hinfo : (P.info? e).map (fun i => (i.zero, i.size, i.bytes)) = some (some z, 2, bytes)) (hzs : z.cells.size = 2)
    (v : Value) (n : Nat) (xs : List Value) (hs : a.eval s = v) (hown : w.ownsRow base e 2 v n xs)
    (g : Nat) (u u' : Value) (hx : a.eval x = .slice (some ⟨g, 0, none⟩) 1 1) (hc : w.cell? ⟨g, 0, none⟩ = some u) (hc' : w.cell? ⟨g, 1, none⟩ = some u') (h1 : u.oneCell' = true) (h2 : u'.oneCell' = true)
    (hn : n ≤ 1000000000) (hby : bytes ≤ 1000) (hbase : base ≤ w.heap.size)
    (h : ∀ v' w', w'.ownsRow base e 2 v' (n + 1) (xs ++ [u, u']) → w.grownBy w' v.ownBlock → (v'.ownBlock = v.ownBlock ∨ v'.ownBlock = some w.heap.size) → wpList P ops Q rest (a.put o.dst v') w') :
    wpList P ops Q (o :: rest) a w := by
  obtain ⟨i, hi, hz, hsz, hbs⟩ := info_parts hinfo
  refine wpList_append_own_at w hgd s x t ho base e i z 2 bytes ht hi hz hsz hbs hzs (by omega) v n xs hs hown ⟨g, 0, none⟩ 1 1 [u, u'] hx rfl ?_ ?_ ?_ ?_ hbase (fun v' w' h2 h3 _ h5 => h v' w' h2 h3 h5)
  · intro j y hj
    match j, hj with
    | 0, hj => simp at hj; subst hj; simpa [Addr.add] using hc
    | 1, hj => simp at hj; subst hj; simpa [Addr.add] using hc'
  · intro y hy
    simp only [List.mem_cons, List.not_mem_nil, or_false] at hy
    rcases hy with rfl | rfl
    · exact h1
    · exact h2
  · unfold maxLen; omega
  · have : (n + 1) * bytes ≤ 1000000001 * 1000 := Nat.mul_le_mul (by omega) hby
    omega
end G294
namespace Go.Proofs.YtjklngheehhggaaDoor
open Go.RowKit G294

set_option maxRecDepth 100000 in
set_option maxHeartbeats 4000000 in
theorem sEncodeShards_own (v : Value) (T : List (List UInt8)) (m : Int) (w : World) (hv : Seen w v (strs T)) :
    Calls Tryd.prog 167 #[v, .int .i64 m] w (RetShsOk 87 w (encR T m) (encOk T m)) := by
  have HV := Lib.hid hv
  obtain ⟨A, cp, hvv⟩ := hv.len
  rw [strs_length] at hvv
  subst hvv
  clear hv
  by_cases hs : shapeOk T.length m = true
  · have HS := Lib.hid hs
    have hbs := shapeOk_b hs
    obtain ⟨q, rfl⟩ := Int.eq_ofNat_of_zero_le (show 0 ≤ m by omega)
    clear hs
    by_cases htx : textsOk T = true
    · have HT := Lib.hid htx
      have HO : Hid (encOk T q = true) := by show encOk T q = true; rw [encOk, HS.out, HT.out]; rfl
      have HR := Lib.hid (encR_yes HO.out)
      have HAT := Lib.hid (textsOk_at htx)
      have hn40 := textsOk_first htx
      clear htx
      generalize hk : T.length = k at *
      have HK := Lib.hid hk
      generalize hnn : (T.getD 0 []).length = n at *
      have HNN := Lib.hid hnn
      clear hk hnn
      have hk8 : 1 ≤ k ∧ k ≤ 8 := by omega
      have hq6 : 1 ≤ q ∧ q ≤ 6 := by omega
      go_enter Tryd.func167, Tryd.ntmps167
      go_wp2_with fail
      refine (sGoodShape_any _ _ _).mono ?_
      rintro e w' ⟨rfl, rfl⟩
      rw [HS.out]
      go_wp2_with fail
      refine (l3Texts_any _ T _ HV.out).mono ?_
      rintro e w' ⟨rfl, rfl⟩
      rw [HT.out]
      go_wp2_with fail
      refine (l3Matrix_own k q _ (by omega) (by omega) (by omega) (by omega)).mono ?_
      rintro e w1 ⟨v1, vs1, rfl, hM1, k1⟩
      have hs1 := k1.size
      have HM1 := Lib.hid hM1
      clear hM1
      go_wp2_with fail
      refine (l3Rows_own (k + q) k n (codF k) T _ _ _ HM1.out.seen (HV.out.below k1.to_below) HK.out (by omega) (by omega) (by omega) HAT.out (by omega)).mono ?_
      rintro e w2 ⟨v2, rfl, hO2, k2⟩
      have hs2 := k2.size
      have hB2 : Below w.heap.size w w2 := k2.base k1.to_below (by omega) (by omega)
      obtain ⟨A2, c2, rfl, hlc2, hcm2, hx2⟩ := hO2.seen
      rw [strs_length, rowsT_length] at hlc2 hx2
      rw [strs_length, rowsT_length]
      obtain ⟨b, off, rfl, hbl, hcell⟩ := hx2 (by omega)
      have HC : Hid (∀ j, j < k + q → w2.cell? ⟨b, off + j, none⟩ = some (.string (str (comb k n (codF k j) T)))) := fun j hj => by
        refine hcell j _ ?_
        simp only [strs, List.getElem?_map, shards_rows _ _ _ _ _ _ hj, Option.map_some]
      unfold maxLen at hcm2
      clear hcell hx2 hO2
      generalize hrr : k + q = r at *
      go_wp2_with fail
      go_loopw [6, 26] (fun o i wr => ∃ j : Nat, j ≤ r ∧ i = .int .i64 j ∧ wr.ownsRow w2.heap.size 87 2 o j (shs ((shardsF r k n (codF k) T).take j)) ∧ Below w2.heap.size w2 wr)
        (fun _ i _ => r - (intOf i).toNat)
      case atStart => exact ⟨0, Nat.zero_le _, rfl, World.ownsRow_nil _ _ _ _, Below.refl _ _⟩
      case round =>
        obtain ⟨j, hj, rfl, hown, hb⟩ := hrel
        have hbs2 := hb.size
        by_cases hlt : j < r
        · have hji : (j : Int) < (r : Int) := by omega
          have hcx := (hb.cell (p := ⟨b, off + j, none⟩) hbl).trans (HC.out j hlt)
          go_wp2_with (at_builtin; refine wpList_append2 rfl _ _ _ rfl w2.heap.size 87 _ _ Tryd.underlying83 infoShard rfl _ j _ rfl (hown.alloc _) wr.heap.size (.int .i64 j) (.string (str (comb k n (codF k j) T))) rfl ?c1 ?c5 rfl rfl ?c2 ?c3 ?c4 ?_)
          case c1 => simp
          case c5 => simp
          case c2 => omega
          case c3 => omega
          case c4 => simp; omega
          intro v' w' hown' hg' _
          have hb' : Below w2.heap.size w2 w' := below_append (hb.alloc hbs2 _) (hown.alloc _) hg' (Nat.le_refl _) (by simp; omega)
          have hown3 : w'.ownsRow w2.heap.size 87 2 v' (j + 1) (shs ((shardsF r k n (codF k) T).take (j + 1))) := by
            rw [shardsF_take _ _ _ _ _ _ hlt, shs_append]; exact hown'
          clear hown' hg'
          go_wp2_with fail
          go_roundw
          case rel => exact ⟨j + 1, by omega, by go_num, hown3, hb'⟩
          case measure => simp [intOf]; omega
        · obtain rfl : j = r := by omega
          have hji : ¬ (j : Int) < (j : Int) := by omega
          go_wp2_with fail
          go_ret2
          refine ⟨_, by rw [HO.out]; rfl, ?_, TurnIn.of_below (hB2.trans (hb.mono (by omega)))⟩
          rw [List.take_of_length_le (by simp)] at hown
          rw [HR.out, encL, HNN.out, hrr]
          exact OwnSh.of_made (w := w) (own_base (by simpa using hown) (by omega))
    · have HT : Hid (textsOk T = false) := by show textsOk T = false; simpa using htx
      have HO : Hid (encOk T q = false) := by show encOk T q = false; rw [encOk, HT.out]; simp
      have HR := Lib.hid (encR_no HO.out)
      clear htx
      generalize hk : T.length = k at *
      go_enter Tryd.func167, Tryd.ntmps167
      go_wp2_with fail
      refine (sGoodShape_any _ _ _).mono ?_
      rintro e w' ⟨rfl, rfl⟩
      rw [HS.out]
      go_wp2_with fail
      refine (l3Texts_any _ T _ HV.out).mono ?_
      rintro e w' ⟨rfl, rfl⟩
      rw [HT.out]
      go_wp2_with fail
      go_ret2
      exact ⟨.slice none 0 0, by rw [HO.out]; rfl, by rw [HR.out]; exact OwnSh.nil _ _ _, TurnIn.refl _⟩
  · have HS : Hid (shapeOk T.length m = false) := by show shapeOk T.length m = false; simpa using hs
    have HO : Hid (encOk T m = false) := by show encOk T m = false; rw [encOk, HS.out]; rfl
    have HR := Lib.hid (encR_no HO.out)
    clear hs
    generalize hk : T.length = k at *
    go_enter Tryd.func167, Tryd.ntmps167
    go_wp2_with fail
    refine (sGoodShape_any _ _ _).mono ?_
    rintro e w' ⟨rfl, rfl⟩
    rw [HS.out]
    go_wp2_with fail
    go_ret2
    exact ⟨.slice none 0 0, by rw [HO.out]; rfl, by rw [HR.out]; exact OwnSh.nil _ _ _, TurnIn.refl _⟩

end Go.Proofs.YtjklngheehhggaaDoor

/- Decoding shards: the model's. -/
namespace G294
open Go Go.RowKit
/-- the rows of the code that the first shards name -/
def usedG (k : Nat) (l : List Sh) : Ents := fun i j => codF k (l.getD i (0, [])).1.toNat j
def usedF (k : Nat) (l : List Sh) : Ents := ent (mkM k k (usedG k l))
theorem used_mk (k : Nat) (l : List Sh) : mkM k k (usedF k l) = mkM k k (usedG k l) := mkM_congr fun i j hi hj => ent_mkM _ _ _ _ _ hi hj
def nosK (k : Nat) (l : List Sh) : List Int := (l.take k).map (·.1)
def txtK (k : Nat) (l : List Sh) : List (List UInt8) := (l.take k).map (·.2)
def decX (k n : Nat) (l : List Sh) : List (List UInt8) := rowsT k k n (bst (usedF k l) idF k k) (txtK k l)
def usedOk (k : Nat) (l : List Sh) : Bool := decide ((est (usedF k l) k k).2 = k)
def decY (k n : Nat) (l : List Sh) : List (List UInt8) := if usedOk k l = true then decX k n l else []
theorem decY_yes {k n : Nat} {l : List Sh} (h : usedOk k l = true) : decY k n l = decX k n l := if_pos h
theorem decY_no {k n : Nat} {l : List Sh} (h : usedOk k l = false) : decY k n l = [] := if_neg (by rw [h]; simp)
theorem nosK_succ {l : List Sh} {k : Nat} {s : Sh} (h : l[k]? = some s) : nosK (k + 1) l = nosK k l ++ [s.1] := by simp [nosK, List.take_add_one, h]
theorem txtK_succ {l : List Sh} {k : Nat} {s : Sh} (h : l[k]? = some s) : txtK (k + 1) l = txtK k l ++ [s.2] := by simp [txtK, List.take_add_one, h]
theorem nosK_length {l : List Sh} {k : Nat} (h : k ≤ l.length) : (nosK k l).length = k := by simp [nosK]; omega
theorem txtK_length {l : List Sh} {k : Nat} (h : k ≤ l.length) : (txtK k l).length = k := by simp [txtK]; omega
theorem nosK_get {l : List Sh} {k i : Nat} (h : k ≤ l.length) (hi : i < k) : (nosK k l).getD i 0 = (l.getD i (0, [])).1 := by
  have : i < l.length := by omega
  simp [nosK, List.getD, List.getElem?_map, List.getElem?_take, hi, this]
theorem txtK_get {l : List Sh} {k i : Nat} (h : k ≤ l.length) (hi : i < k) : (txtK k l).getD i [] = (l.getD i (0, [])).2 := by
  have : i < l.length := by omega
  simp [txtK, List.getD, List.getElem?_map, List.getElem?_take, hi, this]
theorem range_get {k j : Nat} (h : j < k) : ((List.range k).map fun i : Nat => (i : Int)).getD j 0 = (j : Int) := by simp [List.getD, h]
theorem used_eq {l : List Sh} {k : Nat} (h : k ≤ l.length) : mkM (nosK k l).length ((List.range k).map fun i : Nat => (i : Int)).length (fun i j => codF k ((nosK k l).getD i 0).toNat (((List.range k).map fun i : Nat => (i : Int)).getD j 0).toNat) = mkM k k (usedF k l) := by
  rw [nosK_length h]
  simp only [List.length_map, List.length_range]
  rw [used_mk]
  unfold mkM mkRow
  refine List.map_congr_left fun i hi => List.map_congr_left fun j hj => ?_
  rw [List.mem_range] at hi hj
  show codF k ((nosK k l).getD i 0).toNat (((List.range k).map fun i : Nat => (i : Int)).getD j 0).toNat = usedG k l i j
  rw [nosK_get h hi, range_get hj]
  simp [usedG]
end G294
namespace Go.Proofs.YtjklngheehhggaaDoor
open Go.RowKit G294

set_option maxRecDepth 100000 in
set_option maxHeartbeats 4000000 in
theorem l3Decode_own (k q n : Nat) (l : List Sh) (v : Value) (w : World) (hv : SeenH w v l) (hk : 1 ≤ k ∧ k ≤ 8) (hq : 1 ≤ q ∧ q ≤ 6) (hkl : k ≤ l.length)
    (hno : ∀ (i : Nat) (s : Sh), l[i]? = some s → 0 ≤ s.1 ∧ s.1 < ((k + q : Nat) : Int)) (htx : ∀ (i : Nat) (s : Sh), l[i]? = some s → s.2.length = n) (hn : n ≤ 40) :
    Calls Tryd.prog 173 #[v, .int .i64 k, .int .i64 q] w (RetStrsOk 9 w (decY k n l) (usedOk k l)) := by
  have HNO : Hid (∀ i, i < (nosK k l).length → 0 ≤ (nosK k l).getD i 0 ∧ (nosK k l).getD i 0 < ((k + q : Nat) : Int)) := fun i hi => by
    rw [nosK_length hkl] at hi
    rw [nosK_get hkl hi]
    exact hno i _ (by simp [List.getD, show i < l.length by omega])
  have HAL : Hid (∀ i, i < ((List.range k).map fun i : Nat => (i : Int)).length → 0 ≤ ((List.range k).map fun i : Nat => (i : Int)).getD i 0 ∧ ((List.range k).map fun i : Nat => (i : Int)).getD i 0 < (k : Int)) := fun i hi => by
    have hi2 : i < k := by simpa using hi
    rw [range_get hi2]; omega
  have HTX : Hid (∀ j, j < k → ((txtK k l).getD j []).length = n) := fun j hj => by
    rw [txtK_get hkl hj]
    exact htx j _ (by simp [List.getD, show j < l.length by omega])
  have HU := Lib.hid (used_eq hkl)
  have HLN := Lib.hid (nosK_length hkl)
  have HLT := Lib.hid (txtK_length hkl)
  obtain ⟨A, c, rfl, hlc, hcm, hx⟩ := hv
  obtain ⟨b, off, rfl, hbl, hcell⟩ := hx (by omega)
  have HC := Lib.hid hcell
  clear hx hcell hno htx
  unfold maxLen at hcm
  generalize hL : l.length = L at *
  have HL := Lib.hid hL
  clear hL
  go_enter Tryd.func173, Tryd.ntmps173
  go_wp2_with fail
  go_loopw [8, 9, 18] (fun o1 o2 i wr => ∃ j : Nat, j ≤ k ∧ i = .int .i64 j ∧ wr.ownsRow w.heap.size 3 1 o1 j (ints (nosK j l)) ∧ wr.ownsRow w.heap.size 9 1 o2 j (strs (txtK j l)) ∧ (∀ g, o1.ownBlock = some g → o2.ownBlock ≠ some g) ∧ Below w.heap.size w wr)
    (fun _ _ i _ => k - (intOf i).toNat)
  case atStart => exact ⟨0, Nat.zero_le _, rfl, World.ownsRow_nil _ _ _ _, World.ownsRow_nil _ _ _ _, (fun g h => by simp [Value.ownBlock] at h), Below.refl _ _⟩
  case round =>
    obtain ⟨j, hj, rfl, hown1, hown2, hap, hb⟩ := hrel
    have hbs := hb.size
    by_cases hlt : j < k
    · obtain ⟨⟨no, s⟩, hks⟩ := at_lt HL.out (show j < L by omega)
      have hc1 := (hb.cell (p := ⟨b, off + j * 2, none⟩) hbl).trans (HC.out j _ hks).1
      have hc2 := (hb.cell (p := ⟨b, off + j * 2 + 1, none⟩) hbl).trans (HC.out j _ hks).2
      simp only at hc1 hc2
      have hji : (j : Int) < (k : Int) := by omega
      have hjL : j < k := hlt
      have HN1 := Lib.hid (nosK_succ hks)
      have HT1 := Lib.hid (txtK_succ hks)
      clear hks
      have hlt1 := fun g e => (hown1.lt g e).2
      have hlt2 := fun g e => (hown2.lt g e).2
      go_wp2_with (at_builtin; refine wpList_append1 rfl _ _ _ rfl w.heap.size 3 _ _ Tryd.underlying45 infoInt rfl _ j _ rfl ((hown1.alloc _).alloc _) (wr.heap.size + 1) (.int .i64 no) rfl ?c1 rfl ?c2 ?c3 ?c4 ?_)
      case c2 => omega
      case c4 => first | omega | (simp; omega)
      intro v1 w1 hown1' hg1 hor1
      have hsz1 := hg1.size
      have hbox : w1.cell? ⟨wr.heap.size, 1, none⟩ = some (.string (str s)) := hg1.cell (by simp) (fun e => Nat.lt_irrefl _ (hlt1 wr.heap.size e.symm))
      have hown2' := own_other ((hown2.alloc (.cells #[.int .i64 no, .string (str s)] 87)).alloc (.cells #[.int .i64 no] 3)) hg1 (fun g e e2 => hap g e2 e)
      have hb1 : Below w.heap.size w w1 := below_append ((hb.alloc hbs _).alloc (by simp; omega) _) ((hown1.alloc _).alloc _) hg1 (Nat.le_refl _) (by simp; omega)
      simp only [World.size_alloc] at hsz1 hor1
      clear hown1 hg1 hc1 hc2
      go_wp2_with (at_builtin; refine wpList_append1 rfl _ _ _ rfl w.heap.size 9 _ _ Tryd.underlying23 infoStr rfl _ j _ rfl (hown2'.alloc _) w1.heap.size (.string (str s)) rfl ?d1 rfl ?d2 ?d3 ?d4 ?_)
      case d1 => simp
      case d2 => omega
      case d3 => omega
      case d4 => first | omega | (simp; omega)
      intro v2 w2 hown2'' hg2 hor2
      have hapa : ∀ g, v1.ownBlock = some g → u9.ownBlock ≠ some g := fun g e e2 => by
        rcases hor1 with h | h
        · exact hap g (h ▸ e) e2
        · rw [h] at e; cases e; have := hlt2 _ e2; omega
      have hown1'' := own_other (hown1'.alloc (.cells #[.string (str s)] 9)) hg2 (fun g e e2 => hapa g e e2)
      have hap' : ∀ g, v1.ownBlock = some g → v2.ownBlock ≠ some g := fun g e e2 => by
        rcases hor2 with h | h
        · exact hapa g e (h ▸ e2)
        · rw [h] at e2; have := (hown1'.lt _ e).2; simp at e2; omega
      have hb2 : Below w.heap.size w w2 := below_append (hb1.alloc (by omega) _) (hown2'.alloc _) hg2 (Nat.le_refl _) (by simp; omega)
      have hn1 : w2.ownsRow w.heap.size 3 1 v1 (j + 1) (ints (nosK (j + 1) l)) := by rw [HN1.out, ints_append]; exact hown1''
      have hn2 : w2.ownsRow w.heap.size 9 1 v2 (j + 1) (strs (txtK (j + 1) l)) := by rw [HT1.out, strs_append]; exact hown2''
      clear hown1'' hown2'' hown1' hown2' hg2 hor1 hor2 hapa hbox
      go_wp2_with fail
      go_roundw
      case rel => exact ⟨j + 1, by omega, by go_num, hn1, hn2, hap', hb2⟩
      case measure => simp [intOf]; omega
    · obtain rfl : j = k := by omega
      have hji : ¬ (j : Int) < (j : Int) := by omega
      have HS1 := Lib.hid (Seen.of_own hown1)
      have HS2 := Lib.hid (Seen.of_own hown2)
      clear hown1 hown2 hap
      go_wp2_with fail
      refine (l3Matrix_own j q _ (by omega) (by omega) (by omega) (by omega)).mono ?_
      rintro e w1 ⟨v1, vs1, rfl, hM1, k1⟩
      have hs1 := k1.size
      have HM1 := Lib.hid hM1
      clear hM1
      go_wp2_with fail
      refine (l3All_own j _ (by omega)).mono ?_
      rintro e w2 ⟨v2, rfl, hO2, k2⟩
      have hs2 := k2.size
      have HO2 := Lib.hid hO2
      clear hO2
      go_wp2_with fail
      refine (l2Part_own (j + q) j (codF j) (nosK j l) ((List.range j).map fun i : Nat => (i : Int)) _ _ _ _ (HM1.out.seen.touch k2) ((HS1.out.below k1.to_below).below k2.to_below) HO2.out.seen HNO.out HAL.out (by rw [HLN.out]; omega) (by simp; omega)).mono ?_
      rw [HU.out]
      rintro e w3 ⟨v3, vs3, rfl, hM3, k3⟩
      have hs3 := k3.size
      have HM3 := Lib.hid hM3
      clear hM3
      go_wp2_with fail
      refine (l2Inverse_own j (usedF j l) _ _ HM3.out.seen (by omega) (by omega)).mono ?_
      rintro e w4 ⟨v4, vs4, rfl, hM4, k4⟩
      have hs4 := k4.size
      obtain ⟨A4, c4, rfl, hlc4, hcm4⟩ := hM4.seen.len
      rw [mkM_length] at *
      unfold maxLen at hcm4
      have HM4 := Lib.hid hM4
      clear hM4
      have HB4 : Hid (Below w.heap.size w w4) := k4.base (k3.base (k2.base (k1.base hb (by omega) (by omega)) (by omega) (by omega)) (by omega) (by omega)) (by omega) (by omega)
      have HS4 : Hid (Seen w4 _ (strs (txtK j l))) := (((HS2.out.below k1.to_below).below k2.to_below).below k3.to_below).below k4.to_below
      have kA : TurnIn 0 0 w4 (w4.alloc (.cells #[.slice A4 j c4] 79)) := turn_alloc _ _
      by_cases hok : usedOk j l = true
      · have HY := Lib.hid (decY_yes (n := n) hok)
        have hok2 : decide ((est (usedF j l) j j).2 = j) = true := hok
        have HK := Lib.hid hok
        rw [hok2]
        clear hok hok2
        go_wp2_with fail
        refine (l3Rows_own j j n (bst (usedF j l) idF j j) (txtK j l) _ _ _ (HM4.out.seen.touch kA) (HS4.out.below kA.to_below) HLT.out (by omega) (by omega) (by omega) HTX.out (by omega)).mono ?_
        rintro e w5 ⟨v5, rfl, hO5, k5⟩
        go_wp2_with fail
        go_ret2
        refine ⟨_, by rw [HK.out]; rfl, ?_, ?_⟩
        · rw [HY.out, decX]
          exact ⟨own_base hO5.1 (by have := HB4.out.size; simp; omega), hO5.2⟩
        · exact TurnIn.of_below (k5.base (kA.base HB4.out (by have := HB4.out.size; omega) (by omega)) (by have := HB4.out.size; simp; omega) (by omega))
      · have hok1 : usedOk j l = false := by simpa using hok
        have hok2 : decide ((est (usedF j l) j j).2 = j) = false := hok1
        have HY := Lib.hid (decY_no (n := n) hok1)
        have HK := Lib.hid hok1
        rw [hok2]
        clear hok hok1 hok2
        go_wp2_with fail
        go_ret2
        refine ⟨.slice none 0 0, by rw [HK.out]; rfl, by rw [HY.out]; exact OwnStrs.nil _ _ _, TurnIn.of_below (kA.base HB4.out (by have := HB4.out.size; omega) (by omega))⟩

end Go.Proofs.YtjklngheehhggaaDoor

/- DecodeShards: the model's, and its mathematics. -/
namespace G294
open Go Go.RowKit
def lenH (l : List Sh) : Nat := (l.getD 0 (0, [])).2.length
/-- what both check ahead of the inverse -/
def preOk (l : List Sh) (k m : Int) : Bool := shapeOk k m && shardsOk l (k + m) && decide (k ≤ l.length)
def decOk (l : List Sh) (k m : Int) : Bool := preOk l k m && usedOk k.toNat l
def decR (l : List Sh) (k m : Int) : List (List UInt8) := if preOk l k m = true then decY k.toNat (lenH l) l else []
theorem decR_no {l : List Sh} {k m : Int} (h : preOk l k m = false) : decR l k m = [] := if_neg (by rw [h]; simp)
theorem decR_yes {l : List Sh} {k : Nat} {m : Int} (h : preOk l k m = true) : decR l k m = decY k (lenH l) l := by unfold decR; rw [if_pos h]; simp
theorem decOk_no {l : List Sh} {k m : Int} (h : preOk l k m = false) : decOk l k m = false := by unfold decOk; rw [h]; rfl
theorem decOk_yes {l : List Sh} {k : Nat} {m : Int} (h : preOk l k m = true) : decOk l k m = usedOk k l := by unfold decOk; rw [h]; simp
theorem shards_ge {l : List Sh} {n : Int} (h : shardsOk l n = true) : ∀ (i : Nat) (s : Sh), l[i]? = some s → 0 ≤ s.1
  | 0, s, hs => by have := ((shardsOk_iff l n).1 h 0 s hs).1.1; simp [lastNo] at this; omega
  | i + 1, s, hs => by
    have h1 := ((shardsOk_iff l n).1 h (i + 1) s hs).1.1
    have hi : i < l.length := by have := (List.getElem?_eq_some_iff.1 hs).1; omega
    have h2 := shards_ge h i l[i] (List.getElem?_eq_getElem hi)
    rw [lastNo_succ (List.getElem?_eq_getElem hi)] at h1
    omega
theorem shards_no {l : List Sh} {k q : Nat} (h : shardsOk l ((k : Int) + q) = true) : ∀ (i : Nat) (s : Sh), l[i]? = some s → 0 ≤ s.1 ∧ s.1 < ((k + q : Nat) : Int) := fun i s hs => by
  have h1 := ((shardsOk_iff _ _).1 h i s hs).1.2
  have h2 := shards_ge h i s hs
  omega
theorem shards_len {l : List Sh} {n : Int} (h : shardsOk l n = true) : ∀ (i : Nat) (s : Sh), l[i]? = some s → s.2.length = lenH l := fun i s hs => ((shardsOk_iff l n).1 h i s hs).2.1
theorem shards_40 {l : List Sh} {n : Int} (h : shardsOk l n = true) : lenH l ≤ 40 := by
  cases l with
  | nil => simp [lenH]
  | cons a t => exact ((shardsOk_iff _ n).1 h 0 a rfl).2.2
end G294
namespace Go.Proofs.YtjklngheehhggaaDoor
open Go.RowKit G294

set_option maxRecDepth 100000 in
set_option maxHeartbeats 4000000 in
theorem sDecodeShards_own (v : Value) (l : List Sh) (k m : Int) (w : World) (hv : SeenH w v l) :
    Calls Tryd.prog 120 #[v, .int .i64 k, .int .i64 m] w (RetStrsOk 9 w (decR l k m) (decOk l k m)) := by
  have HV := Lib.hid hv
  obtain ⟨A, cp, hvv⟩ := hv.len
  subst hvv
  clear hv
  by_cases hs : shapeOk k m = true
  · have HS := Lib.hid hs
    have hbs := shapeOk_b hs
    obtain ⟨p, rfl⟩ := Int.eq_ofNat_of_zero_le (show 0 ≤ k by omega)
    obtain ⟨q, rfl⟩ := Int.eq_ofNat_of_zero_le (show 0 ≤ m by omega)
    clear hs
    by_cases hsh : shardsOk l ((p : Int) + q) = true
    · have HH := Lib.hid hsh
      clear hsh
      by_cases hlen : p ≤ l.length
      · have hpre : preOk l p q = true := by rw [preOk, HS.out, HH.out]; simp; omega
        have HO := Lib.hid (decOk_yes hpre)
        have HR := Lib.hid (decR_yes hpre)
        clear hpre
        have hll : ¬ ((l.length : Nat) : Int) < (p : Int) := by omega
        go_enter Tryd.func120, Tryd.ntmps120
        go_wp2_with fail
        refine (sGoodShape_any _ _ _).mono ?_
        rintro e w' ⟨rfl, rfl⟩
        rw [HS.out]
        go_wp2_with fail
        refine (l3Shards_any _ l _ _ HV.out (by omega)).mono ?_
        rintro e w1 ⟨rfl, k1⟩
        rw [HH.out]
        go_wp2_with fail
        refine (l3Decode_own p q (lenH l) l _ _ (HV.out.below k1.to_below) (by omega) (by omega) (by omega) (shards_no HH.out) (shards_len HH.out) (shards_40 HH.out)).mono ?_
        rintro e w2 ⟨v2, rfl, hO2, k2⟩
        go_wp2_with fail
        go_ret2
        exact ⟨_, by rw [HO.out]; rfl, by rw [HR.out]; exact ⟨own_base hO2.1 k1.size, hO2.2⟩, turn_trans k1 k2 (by omega)⟩
      · have hpre : preOk l p q = false := by rw [preOk, HS.out, HH.out]; simp; omega
        have HO := Lib.hid (decOk_no hpre)
        have HR := Lib.hid (decR_no hpre)
        clear hpre
        have hll : ((l.length : Nat) : Int) < (p : Int) := by omega
        go_enter Tryd.func120, Tryd.ntmps120
        go_wp2_with fail
        refine (sGoodShape_any _ _ _).mono ?_
        rintro e w' ⟨rfl, rfl⟩
        rw [HS.out]
        go_wp2_with fail
        refine (l3Shards_any _ l _ _ HV.out (by omega)).mono ?_
        rintro e w1 ⟨rfl, k1⟩
        rw [HH.out]
        go_wp2_with fail
        go_ret2
        exact ⟨.slice none 0 0, by rw [HO.out]; rfl, by rw [HR.out]; exact OwnStrs.nil _ _ _, k1⟩
    · have hsh1 : shardsOk l ((p : Int) + q) = false := by simpa using hsh
      have HH := Lib.hid hsh1
      have hpre : preOk l p q = false := by rw [preOk, hsh1]; simp
      have HO := Lib.hid (decOk_no hpre)
      have HR := Lib.hid (decR_no hpre)
      clear hpre hsh hsh1
      go_enter Tryd.func120, Tryd.ntmps120
      go_wp2_with fail
      refine (sGoodShape_any _ _ _).mono ?_
      rintro e w' ⟨rfl, rfl⟩
      rw [HS.out]
      go_wp2_with fail
      refine (l3Shards_any _ l _ _ HV.out (by omega)).mono ?_
      rintro e w1 ⟨rfl, k1⟩
      rw [HH.out]
      go_wp2_with fail
      go_ret2
      exact ⟨.slice none 0 0, by rw [HO.out]; rfl, by rw [HR.out]; exact OwnStrs.nil _ _ _, k1⟩
  · have hs1 : shapeOk k m = false := by simpa using hs
    have HS := Lib.hid hs1
    have hpre : preOk l k m = false := by rw [preOk, hs1]; simp
    have HO := Lib.hid (decOk_no hpre)
    have HR := Lib.hid (decR_no hpre)
    clear hpre hs hs1
    go_enter Tryd.func120, Tryd.ntmps120
    go_wp2_with fail
    refine (sGoodShape_any _ _ _).mono ?_
    rintro e w' ⟨rfl, rfl⟩
    rw [HS.out]
    go_wp2_with fail
    go_ret2
    exact ⟨.slice none 0 0, by rw [HO.out]; rfl, by rw [HR.out]; exact OwnStrs.nil _ _ _, TurnIn.refl _⟩

end Go.Proofs.YtjklngheehhggaaDoor

/- numbersOf and rowsAt, the program's. -/
namespace G294
open Go Go.RowKit
/-- the rows that numbers name -/
def pickM (L : Mat) (nos : List Int) : Mat := nos.map fun n => L.getD n.toNat []
/-- those rows as values -/
def pickV (vs : List Value) (nos : List Int) : List Value := nos.map fun n => vs.getD n.toNat undef
@[simp] theorem pickM_length (L : Mat) (nos : List Int) : (pickM L nos).length = nos.length := by simp [pickM]
@[simp] theorem pickV_length (vs : List Value) (nos : List Int) : (pickV vs nos).length = nos.length := by simp [pickV]
theorem pickM_mk {r c : Nat} {F : Ents} {nos : List Int} (h : ∀ i, i < nos.length → 0 ≤ nos.getD i 0 ∧ nos.getD i 0 < (r : Int)) : pickM (mkM r c F) nos = mkM nos.length c (fun i j => F (nos.getD i 0).toNat j) := by
  apply List.ext_getElem
  · simp
  · intro i h1 h2
    have hi : i < nos.length := by simpa using h1
    have hh := h i hi
    have e : nos.getD i 0 = nos[i] := by simp [List.getD, hi]
    rw [e] at hh
    have e2 : (mkM r c F).getD nos[i].toNat [] = mkRow c (F nos[i].toNat) := mkM_getD _ _ _ _ (by omega)
    simp only [pickM, List.getElem_map, e2]
    have e3 : nos[i]?.getD 0 = nos[i] := by simpa [List.getD] using e
    simp [mkM, e3]
theorem pick_seen {w w' : World} {u : Value} {L : Mat} {vs : List Value} {nos : List Int} (hl : vs.length = L.length) (hs : ∀ (i : Nat) (u : Value), vs[i]? = some u → Seen w u (bys (L.getD i [])))
    (hno : ∀ i, i < nos.length → 0 ≤ nos.getD i 0 ∧ nos.getD i 0 < (L.length : Int)) (hb : Below w.heap.size w w') (hu : Seen w' u (pickV vs nos)) : SeenM w' u (pickM L nos) := by
  refine ⟨pickV vs nos, by simp, hu, fun i x hx => ?_⟩
  have hi : i < nos.length := by have := (List.getElem?_eq_some_iff.1 hx).1; simpa using this
  have hh := hno i hi
  have e : nos.getD i 0 = nos[i] := by simp [List.getD, hi]
  rw [e] at hh
  have hlt : nos[i].toNat < vs.length := by omega
  have ex : x = vs[nos[i].toNat] := by
    have : (pickV vs nos)[i]? = some (vs.getD nos[i].toNat undef) := by simp [pickV, hi]
    rw [this] at hx
    have := Option.some.inj hx
    rw [← this]; simp [List.getD, hlt]
  have em : (pickM L nos).getD i [] = L.getD nos[i].toNat [] := by simp [pickM, List.getD, hi]
  rw [em, ex]
  exact (hs _ _ (List.getElem?_eq_getElem hlt)).below hb
/-- rows are seen, handed back -/
def RetSeenM (w : World) (L : Mat) (e : Ending) (w' : World) : Prop := ∃ A n c, e = .returned (.agg #[.slice A n c]) ∧ SeenM w' (.slice A n c) L ∧ TurnIn 0 0 w w'
end G294
namespace Go.Proofs.YtjklngheehhggaaDoor
open Go.RowKit G294

set_option maxRecDepth 100000 in
set_option maxHeartbeats 1000000 in
theorem numbersOf_own (v : Value) (l : List Sh) (w : World) (hv : SeenH w v l) (hn : l.length ≤ 1048576) : Calls Tryd.prog 151 #[v] w (RetInts 3 w (l.map (·.1))) := by
  obtain ⟨i0, hi0, hz0, hz1, hz2⟩ := info_parts infoInt
  obtain ⟨A, c, rfl, hlc, hcm, hx⟩ := hv
  unfold maxLen at hcm
  have hlm : (l.map (·.1)).length = l.length := by simp
  generalize hT : l.map (·.1) = T at *
  have HTT := Lib.hid hT
  clear hT
  generalize hnn : l.length = n at *
  have HN := Lib.hid hnn
  have HLM := Lib.hid hlm
  clear hnn hlm
  go_enter Tryd.func151, Tryd.ntmps151
  go_wp2_with (at_make; refine wpList_make_full _ rfl _ _ _ rfl w.heap.size _ i0 _ 1 Tryd.underlying45 hi0 hz0 hz1 _ _ _ _ n rfl rfl rfl rfl ?b2 ?b3 ?b4 ?_)
  case b2 => rw [hz2]; omega
  case b3 => unfold maxLen; omega
  case b4 => exact Nat.le_refl _
  intro w1 hown1 hg1
  have hb1 : Below w.heap.size w w1 := below_of_grown hg1 (Nat.le_refl _) (by simp)
  rw [toList_madeCells_one] at hown1
  have hs1 := (hown1.lt w.heap.size rfl).2
  clear hg1
  go_wp2_with fail
  go_loopw [11] (fun i wr => ∃ k : Nat, k ≤ n ∧ i = .int .i64 k ∧ wr.ownsRow w.heap.size 3 1 (.slice (some ⟨w.heap.size, 0, none⟩) n n) n ((ints T).take k ++ List.replicate (n - k) (.int .i64 0)) ∧ Below w.heap.size w wr)
    (fun i _ => n - (intOf i).toNat)
  case atStart => exact ⟨0, Nat.zero_le _, rfl, by simpa using hown1, hb1⟩
  case round =>
    obtain ⟨k, hk, rfl, hown, hb⟩ := hrel
    clear hown1 hb1
    by_cases hlt : k < n
    · obtain ⟨b, off, rfl, hbl, hcell⟩ := hx (by omega)
      obtain ⟨⟨no, s⟩, hks⟩ := at_lt HN.out hlt
      have hc1 := (hb.cell (p := ⟨b, off + k * 2, none⟩) hbl).trans (hcell k _ hks).1
      have hc2 := (hb.cell (p := ⟨b, off + k * 2 + 1, none⟩) hbl).trans (hcell k _ hks).2
      simp only at hc1 hc2
      have hki : (k : Int) < (n : Int) := by omega
      have hTk : (ints T)[k]? = some (.int .i64 no) := by
        rw [← HTT.out]; simp [ints, hks]
      have HTK := Lib.hid hTk
      have hwr := (hown.lt w.heap.size rfl).2
      have hown2 := hown.alloc (.cells #[.int .i64 no, .string (str s)] 87)
      have hco : (wr.alloc (.cells #[.int .i64 no, .string (str s)] 87)).cell? ⟨w.heap.size, k, none⟩ = some (.int .i64 0) := by
        have ht : ((ints T).take k).length = k := by simp [HLM.out]; omega
        rw [hown2.cellAt k (by omega), List.getElem?_append_right (by omega), ht, Nat.sub_self, List.getElem?_replicate, if_pos (by omega)]
      have hfr := hown2.frozenAt k
      have hst := hown.stored k (.int .i64 no)
      rw [take_set_next (ints T) _ k _ hTk (by simp [HLM.out]; omega)] at hst
      have hst1 := hst.1.alloc (.cells #[.int .i64 no, .string (str s)] 87)
      have hb2 := (hb.setCell (p := ⟨w.heap.size, k, none⟩) (Nat.le_refl _) (.int .i64 no)).alloc (by have := hb.size; simp; omega) (.cells #[.int .i64 no, .string (str s)] 87)
      clear hcell hx hown2 hTk
      go_wp2_with fail
      go_roundw
      case rel => exact ⟨k + 1, by omega, by go_num, by simpa [Nat.sub_sub] using hst1, hb2⟩
      case measure => simp [intOf]; omega
    · obtain rfl : k = n := by omega
      have hki : ¬ (k : Int) < (k : Int) := by omega
      go_wp2_with fail
      go_ret
      refine ⟨_, rfl, OwnInts.of_made ?_, TurnIn.of_below hb⟩
      rw [List.take_of_length_le (by simp [HLM.out]), Nat.sub_self] at hown
      rw [HLM.out]
      simpa using hown

set_option maxRecDepth 100000 in
set_option maxHeartbeats 2000000 in
theorem rowsAt_seen (v : Value) (L : Mat) (u : Value) (nos : List Int) (w : World) (hm : SeenM w v L) (hu : Seen w u (ints nos)) (hn : nos.length ≤ 1048576) (hno : ∀ i, i < nos.length → 0 ≤ nos.getD i 0 ∧ nos.getD i 0 < (L.length : Int)) :
    Calls Tryd.prog 150 #[.agg #[v], u] w (RetSeenM w (pickM L nos)) := by
  obtain ⟨i0, hi0, hz0, hz1, hz2⟩ := info_parts infoRowB
  obtain ⟨vs, hvl, hsv, hrows⟩ := hm
  have HSL : Hid (∀ (x : Value) (m : Nat), vs[m]? = some x → ∃ A' n' c', x = .slice A' n' c') := fun x m hx => by
    obtain ⟨A', c', e, _⟩ := hrows m x hx
    exact ⟨A', _, c', e⟩
  have HPS : Hid (∀ (w' : World) (x : Value), Below w.heap.size w w' → Seen w' x (pickV vs nos) → SeenM w' x (pickM L nos)) := fun w' x hb hx => pick_seen hvl hrows hno hb hx
  obtain ⟨A, cA, rfl, hlA, hcA, hxA⟩ := hsv
  obtain ⟨B, cB, rfl, hlB, hcB, hxB⟩ := hu
  have hlp := pickV_length vs nos
  rw [ints_length] at hlB hxB
  simp only [ints_length]
  unfold maxLen at hcA hcB
  rw [hvl] at hlA hxA ⊢
  generalize hLL : L.length = r at *
  generalize hnn : nos.length = n at *
  have HN := Lib.hid hnn
  have HVL := Lib.hid hvl
  have HNO := Lib.hid hno
  have HXA := Lib.hid hxA
  have HXB := Lib.hid hxB
  have HLP := Lib.hid hlp
  clear hnn hLL hvl hno hrows hxA hxB hlp
  have kB : TurnIn 0 0 w ((w.alloc (.cells #[.slice A r cA] 79)).alloc (.cells #[.slice none 0 0] 79)) := turn_trans (turn_alloc _ _) (turn_alloc _ _) (by omega)
  have zB : ((w.alloc (.cells #[.slice A r cA] 79)).alloc (.cells #[.slice none 0 0] 79)).heap.size = w.heap.size + 2 := by simp
  have q0 : ((w.alloc (.cells #[.slice A r cA] 79)).alloc (.cells #[.slice none 0 0] 79)).cell? ⟨w.heap.size, 0, none⟩ = some (.slice A r cA) := by simp
  have q1 : ((w.alloc (.cells #[.slice A r cA] 79)).alloc (.cells #[.slice none 0 0] 79)).cell? ⟨w.heap.size + 1, 0, none⟩ = some (.slice none 0 0) := by simp
  have q1f : ((w.alloc (.cells #[.slice A r cA] 79)).alloc (.cells #[.slice none 0 0] 79)).frozen? ⟨w.heap.size + 1, 0, none⟩ = false := by simp
  go_enter Tryd.func150, Tryd.ntmps150
  go_wp2_with (at_make; refine wpList_make_full _ rfl _ _ _ rfl (w.heap.size + 2) _ i0 _ 1 Tryd.underlying77 hi0 hz0 hz1 _ _ _ _ n rfl rfl rfl rfl ?b2 ?b3 ?b4 ?_)
  case b2 => rw [hz2]; omega
  case b3 => unfold maxLen; omega
  case b4 => rw [zB]; exact Nat.le_refl _
  intro w1 hown1 hg1
  generalize ((w.alloc (.cells #[.slice A r cA] 79)).alloc (.cells #[.slice none 0 0] 79)) = w2 at *
  have hb1 : Below w2.heap.size w2 w1 := below_of_grown hg1 (Nat.le_refl _) (by simp)
  rw [toList_madeCells_one] at hown1
  have hs1 := (hown1.lt (w.heap.size + 2) rfl).2
  have KB := Lib.hid kB
  have hzB : w.heap.size + 2 = w2.heap.size := zB.symm
  have HZB := Lib.hid hzB
  have hzle : w.heap.size + 2 ≤ w2.heap.size := by omega
  have hzge : w2.heap.size ≤ w.heap.size + 2 := by omega
  clear hg1 kB zB hzB
  go_wp2_with fail
  go_loopw [13] (fun i wr => ∃ k : Nat, k ≤ n ∧ i = .int .i64 k ∧ wr.ownsRow (w.heap.size + 2) 22 1 (.slice (some ⟨w.heap.size + 2, 0, none⟩) n n) n ((pickV vs nos).take k ++ List.replicate (n - k) (.slice none 0 0)) ∧ Below w2.heap.size w2 wr)
    (fun i _ => n - (intOf i).toNat)
  case atStart => exact ⟨0, Nat.zero_le _, rfl, by simpa using hown1, hb1⟩
  case round =>
    obtain ⟨k, hk, rfl, hown, hb⟩ := hrel
    have hbz := hb.size
    have HBW : Hid (Below w.heap.size w wr) := KB.out.to_below.trans (hb.mono (by omega))
    clear hown1 hb1
    by_cases hlt : k < n
    · have hki : (k : Int) < (n : Int) := by omega
      have hkl : k < nos.length := by rw [HN.out]; exact hlt
      obtain ⟨b, off, rfl, hbl, hcell⟩ := HXB.out (by omega)
      have hcx := (HBW.out.cell (p := ⟨b, off + k, none⟩) hbl).trans (hcell k _ (ints_get nos k hkl))
      have hh := HNO.out k hlt
      have eN : nos.getD k 0 = nos[k] := by simp [List.getD, hkl]
      rw [eN] at hh
      obtain ⟨m, hm⟩ := Int.eq_ofNat_of_zero_le hh.1
      rw [hm] at hcx hh
      have hmr : m < r := by omega
      obtain ⟨b', off', rfl, hbl', hcell'⟩ := HXA.out (by omega)
      have hvm : vs[m]? = some (vs[m]'(by rw [HVL.out]; exact hmr)) := List.getElem?_eq_getElem _
      obtain ⟨x, hx⟩ : ∃ x, x = vs[m]'(by rw [HVL.out]; exact hmr) := ⟨_, rfl⟩
      rw [← hx] at hvm
      have hcy := (HBW.out.cell (p := ⟨b', off' + m, none⟩) hbl').trans (hcell' m _ hvm)
      have hTk : (pickV vs nos)[k]? = some x := by
        have : (pickV vs nos)[k]? = some (vs.getD nos[k].toNat undef) := by simp [pickV, hkl]
        rw [this, hm]
        simp [List.getD, hvm]
      have HX1 : Hid (∃ A' n' c', x = .slice A' n' c') := HSL.out x m hvm
      obtain ⟨A', n', c', rfl⟩ := HX1.out
      have c0 := (hb.cell (p := ⟨w.heap.size, 0, none⟩) (show w.heap.size < w2.heap.size by omega)).trans q0
      have hwr := (hown.lt (w.heap.size + 2) rfl).2
      have hco : wr.cell? ⟨w.heap.size + 2, k, none⟩ = some (.slice none 0 0) := by
        have ht : ((pickV vs nos).take k).length = k := by simp [HN.out]; omega
        rw [hown.cellAt k (by omega), List.getElem?_append_right (by omega), ht, Nat.sub_self, List.getElem?_replicate, if_pos (by omega)]
      have hfr := hown.frozenAt k
      have hst := hown.stored k (.slice A' n' c')
      rw [take_set_next (pickV vs nos) _ k _ hTk (by simp [HN.out]; omega)] at hst
      have hst1 := hst.1
      have hb2 := hb.setCell (p := ⟨w.heap.size + 2, k, none⟩) (by show w2.heap.size ≤ w.heap.size + 2; omega) (.slice A' n' c')
      have hm0 : (0 : Int) ≤ (m : Int) := by omega
      have hmi : (m : Int) < (r : Int) := by omega
      clear hcell hcell' hst hTk hx hvm hm eN
      go_wp2_with fail
      go_roundw
      case rel => exact ⟨k + 1, by omega, by go_num, by simpa [Nat.sub_sub] using hst1, hb2⟩
      case measure => simp [intOf]; omega
    · obtain rfl : k = n := by omega
      have hki : ¬ (k : Int) < (k : Int) := by omega
      have r1 := (hb.cell (p := ⟨w.heap.size + 1, 0, none⟩) (show w.heap.size + 1 < w2.heap.size by omega)).trans q1
      have r1f := (hb.frozen (p := ⟨w.heap.size + 1, 0, none⟩) (show w.heap.size + 1 < w2.heap.size by omega)).trans q1f
      rw [List.take_of_length_le (by rw [HLP.out]; exact Nat.le_refl _), Nat.sub_self, List.replicate_zero, List.append_nil] at hown
      have HOWN := Lib.hid hown
      clear hown
      go_wp2_with fail
      refine bodyPost_ret (v := .agg #[.slice (some ⟨w.heap.size + 2, 0, none⟩) k k]) (by simp [results, Tryd.results150, go_sem, r1]) rfl ?_
      have hbf := HBW.out.setCell (p := ⟨w.heap.size + 1, 0, none⟩) (Nat.le_succ _) (.slice (some ⟨w.heap.size + 2, 0, none⟩) k k)
      refine ⟨_, _, _, rfl, HPS.out _ _ hbf ?_, TurnIn.of_below hbf⟩
      exact Seen.of_own (own_other HOWN.out (grown_set (w.heap.size + 1) 0 (.slice (some ⟨w.heap.size + 2, 0, none⟩) k k)) (fun g e e2 => by simp [Value.ownBlock] at e e2; omega))

end Go.Proofs.YtjklngheehhggaaDoor
