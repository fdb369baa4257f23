/- The value of a polynomial: the model's and the program's, which ranges over slices.Backward. -/
import Derived.Test.YtfglkgeeelapgaaDoorShaDef
import Derived.Test.YtfglkgeeelapgaaDoorFieldBytes
import Derived.Test.YtfglkgeeelapgaaDoorBytesOwn
import Derived.Test.YtfglkgeeelapgaaDoorKeeps
set_option linter.unusedSimpArgs false
set_option linter.unusedVariables false
namespace G294
open Go Go.RowKit
/-- what slices.Backward yields -/
def revL (l : List UInt8) : List (Nat × UInt8) := (List.range l.length).map fun i => (l.length - 1 - i, l.getD (l.length - 1 - i) 0)
@[simp] theorem revL_length (l : List UInt8) : (revL l).length = l.length := by simp [revL]
theorem revL_take (l : List UInt8) (k : Nat) (h : k < l.length) : (revL l).take (k + 1) = (revL l).take k ++ [(l.length - 1 - k, l.getD (l.length - 1 - k) 0)] := by
  rw [List.take_succ_eq_append_getElem (by simpa using h)]; simp [revL]
theorem revL_next (l : List UInt8) (k j : Nat) (hj : l.length - k = j + 1) (hkl : j < l.length) : (revL l).take k ++ [(j, l[j])] = (revL l).take (k + 1) := by
  rw [revL_take l k (by omega), show l.length - 1 - k = j by omega]
  simp [List.getD, hkl]
def hacc (x : UInt8) (pre : List (Nat × UInt8)) : UInt8 := pre.foldl (fun a c => gmul a x ^^^ c.2) 0
theorem hacc_snoc (x : UInt8) (pre : List (Nat × UInt8)) (c : Nat × UInt8) : hacc x (pre ++ [c]) = gmul (hacc x pre) x ^^^ c.2 := by simp [hacc]
theorem hacc_take (x : UInt8) (l : List UInt8) : ∀ k, k ≤ l.length → hacc x ((revL l).take k) = hor x (l.drop (l.length - k)) := by
  intro k
  induction k with
  | zero => intro _; simp [hacc, hor]
  | succ k ih =>
    intro h
    rw [revL_take l k (by omega), hacc_snoc, ih (by omega), hor_drop x l (l.length - (k + 1)) (by omega), show l.length - (k + 1) + 1 = l.length - k by omega]
    show _ ^^^ l.getD (l.length - 1 - k) 0 = _
    have e : l.length - 1 - k = l.length - (k + 1) := by omega
    rw [e]
    simp [List.getD, show l.length - (k + 1) < l.length by omega]
theorem hacc_rev (x : UInt8) (l : List UInt8) : hacc x (revL l) = hor x l := by
  have := hacc_take x l l.length (Nat.le_refl _)
  rwa [List.take_of_length_le (by simp), Nat.sub_self, List.drop_zero] at this
def bkV (x : Nat × UInt8) : Array Value := #[.int .i64 (x.1 : Int), .int .u8 (x.2.toNat : Int)]
end G294
namespace Go.Proofs.YtfglkgeeelapgaaDoor
open Go.RowKit Go.Shelf G294

attribute [local go_sem] Oper.semAt_some

set_option maxHeartbeats 1000000 in
theorem l7At_own (v : Value) (l : List UInt8) (x : UInt8) (w : World) (hv : Seen w v (bys l)) :
    Calls Tryd.prog 123 #[v, .int .u8 (x.toNat : Int)] w (RetByte w (hor x l)) := by
  obtain ⟨A, c, rfl, hlc, hcm, hx⟩ := hv
  rw [bys_length] at hlc hx
  simp only [bys_length]
  unfold maxLen at hcm
  generalize hnn : l.length = n at *
  have HN := Lib.hid hnn
  have HE : Hid (hor x (l.drop n) = 0) := by show _ = _; rw [List.drop_of_length_le (by omega)]; rfl
  have HE0 : Hid (hor x (l.drop 0) = hor x l) := rfl
  clear hnn
  go_enter Tryd.func123, Tryd.ntmps123
  go_wp2_with fail
  go_loopw [5, 6] (fun o i wr => ∃ k : Nat, k ≤ n ∧ i = .int .i64 ((k : Int) - 1) ∧ o = .int .u8 ((hor x (l.drop k)).toNat : Int) ∧ Below w.heap.size w wr)
    (fun _ i _ => (intOf i + 1).toNat)
  case atStart => exact ⟨n, Nat.le_refl _, rfl, by rw [HE.out]; rfl, Below.refl _ _⟩
  case round =>
    obtain ⟨k, hk, rfl, rfl, hb⟩ := hrel
    by_cases hlt : 0 < k
    · obtain ⟨j, rfl⟩ : ∃ j, k = j + 1 := ⟨k - 1, by omega⟩
      rw [show ((j + 1 : Nat) : Int) - 1 = (j : Int) by omega]
      obtain ⟨b, off, rfl, hbl, hcell⟩ := hx (by omega)
      have hkl : j < l.length := by rw [HN.out]; omega
      have hcx : wr.cell? ⟨b, off + j, none⟩ = some (.int .u8 ((l[j]).toNat : Int)) := (hb.cell (p := ⟨b, off + j, none⟩) hbl).trans (hcell j _ (bys_get l j hkl))
      have HX := Lib.hid (xor_u8 (gmul (hor x (l.drop (j + 1))) x) l[j])
      have HS := Lib.hid (hor_drop x l j hkl)
      clear hcell hx
      have hki : (j : Int) < (n : Int) := by omega
      have hj0 : (0 : Int) ≤ (j : Int) := by omega
      go_wp2_with fail
      go_quiet ((go_at_call 105; exact quietly (l1Times_u8 _ _ _)))
      go_wp2_with fail
      go_roundw
      case rel => exact ⟨j, by omega, by go_num, by rw [HX.out, HS.out], below_drewN hb _⟩
      case measure => simp [intOf]
    · obtain rfl : k = 0 := by omega
      have hki : ¬ (0 : Int) ≤ ((0 : Nat) : Int) - 1 := by omega
      go_wp2_with fail
      go_ret
      exact ⟨rfl, TurnIn.of_below hb⟩

set_option maxRecDepth 100000 in
set_option maxHeartbeats 1000000 in
/-- slices.Backward boxes its argument and hands back the function -/
theorem backward_any (At : Option Addr) (nt ct : Nat) (w : World) : Calls Tryd.prog 124 #[.slice At nt ct] w fun e w' => e = .returned (.func (.func 141) #[] #[.pointer (some ⟨w.heap.size, 0, none⟩)]) ∧
    w' = w.alloc (.cells #[.slice At nt ct] 22) := by
  go_enter Tryd.func124, Tryd.ntmps124
  go_wp2_with fail
  go_ret
  exact ⟨rfl, rfl⟩

set_option maxRecDepth 100000 in
set_option maxHeartbeats 4000000 in
theorem backward_stops (nF Bs : Nat) (l : List UInt8) (v : Value) (w : World) (Kp : World → World → Prop) (Inv : World → Prop) (hl : l.length ≤ 1000)
    (hInv : ∀ W, Inv W → W.cell? ⟨Bs, 0, none⟩ = some v ∧ Seen W v (bys l))
    (hKp : ∀ W W', Inv W → Kp W W' → Inv W') (hBel : ∀ W W', Inv W → Below W.heap.size W W' → Inv W') (hw : ∀ W, Below w.heap.size w W → Inv W) (hnF : 1 ≤ nF) :
    SeqStopsK Fence.wide nF Tryd.prog 141 #[.pointer (some ⟨Bs, 0, none⟩)] bkV Kp (fun xs => xs = revL l) (fun pre => pre <+: revL l) l.length w := by
  intro lp J Jx W hW hJ hJx hY h0
  have hiv := hw W hW
  obtain ⟨cb, sv⟩ := hInv W hiv
  obtain ⟨A, cp, rfl, hlc, hcm, _⟩ := sv
  rw [bys_length] at hlc
  simp only [bys_length] at *
  unfold maxLen at hcm
  generalize hn : l.length = n at *
  have HN := Lib.hid hn
  have HINV := Lib.hid hInv
  have HKP := Lib.hid hKp
  have HBEL := Lib.hid hBel
  have HY := Lib.hid hY
  clear hInv hKp hBel hY hw hn
  refine callsIn_of_wp Tryd.func141 rfl trivial ?_ rfl
  simp only [Tryd.ntmps141, List.size_toArray, List.length_cons, List.length_nil, Nat.reduceAdd, Nat.reduceSub, Array.replicate_succ, Array.replicate_zero, List.push_toArray, List.append_toArray, List.nil_append, List.cons_append]
  gi_wp2_with fail
  gi_loopw [3] (fun i wr => ∃ k : Nat, k ≤ n ∧ i = .int .i64 (((n - k : Nat) : Int) - 1) ∧ Inv wr ∧ J ((revL l).take k) wr) (fun i _ => (intOf i + 1).toNat)
  case atStart => exact ⟨0, Nat.zero_le _, by simp, hiv, h0⟩
  case round =>
    obtain ⟨k, hk, rfl, hi, hj⟩ := hrel
    clear hiv h0 cb
    by_cases hlt : k < n
    · obtain ⟨j, hj0⟩ : ∃ j, n - k = j + 1 := ⟨n - k - 1, by omega⟩
      rw [hj0, show ((j + 1 : Nat) : Int) - 1 = (j : Int) by omega]
      obtain ⟨cb, sv⟩ := HINV.out _ hi
      obtain ⟨A1, c1, hvv, _, _, hx⟩ := sv
      rw [bys_length, HN.out] at hx hvv
      simp only [Value.slice.injEq] at hvv
      obtain ⟨rfl, _, rfl⟩ := hvv
      obtain ⟨b, off, rfl, hbl, hcell⟩ := hx (by omega)
      have hkl : j < l.length := by rw [HN.out]; omega
      have hcx := hcell j _ (bys_get l j hkl)
      have hki : (j : Int) < (n : Int) := by omega
      have hji : (0 : Int) ≤ (j : Int) := by omega
      obtain ⟨fn, tmps, assign, body, hy, hR⟩ := HY.out _ (j, l[j]) wr hj (by rw [List.length_take, revL_length, HN.out]; omega)
      have HR := Lib.hid hR
      have hpre : (revL l).take k ++ [(j, l[j])] = (revL l).take (k + 1) := revL_next l k j (by rw [HN.out]; exact hj0) hkl
      have HPRE := Lib.hid hpre
      have HJ0 := Lib.hid hj0
      simp only [bkV] at hy
      clear hR hpre hcell hx hj0
      gi_wp2_with fail
      refine HR.out.mono ?_
      rintro e W3 (⟨rfl, hJ3, hk3⟩ | ⟨rfl, hJx3⟩)
      · have hi3 := HKP.out _ _ hi hk3
        rw [HPRE.out] at hJ3
        gi_wp2_with fail
        go_roundw
        case rel => exact ⟨k + 1, by omega, by have := HJ0.out; rw [show n - (k + 1) = j by omega], hi3, hJ3⟩
        case measure => simp [intOf]
      · gi_wp2_with fail
        refine bodyPost_ret (results_none rfl _ _ _) rfl ?_
        exact ⟨⟨_, rfl⟩, .inr ⟨_, by rw [HPRE.out]; exact List.take_prefix _ _, hJx3⟩⟩
    · obtain rfl : k = n := by omega
      have hki : ¬ (0 : Int) ≤ ((k - k : Nat) : Int) - 1 := by omega
      gi_wp2_with fail
      go_end0
      exact ⟨⟨_, rfl⟩, .inl (by rw [List.take_of_length_le (by simp [HN.out])] at hj; exact hj)⟩

end Go.Proofs.YtfglkgeeelapgaaDoor
