/- bytes.Repeat of one byte. -/
import Derived.Test.YtdbgkpmdimapdaaBytesOwn
import Derived.Test.YtdbgkpmdimapdaaStrMem
import Derived.Test.YtdbgkpmdimapdaaTurns
import Derived.Test.YtdbgkpmdimapdaaComb
import Derived.Laws.CopyOwn
import Derived.Laws.Entries
import Derived.Lib.MakeNoZero
import Derived.BigQuiet
import Derived.Deep.RegionLaw
import Derived.RegionTactic
import Derived.Test.YtdbgkpmdimapdaaTailHeld
set_option linter.unusedSimpArgs false
set_option linter.unusedVariables false
namespace G294
open Go Go.RowKit
theorem and32 {n : Nat} (h : n ≤ 200) : bits BinOp.and IntKind.u64 (n : Int) 4294967295 = (n : Int) := by
  show IntKind.u64.wrap ((BitVec.ofInt 64 n &&& BitVec.ofInt 64 4294967295).toNat : Int) = (n : Int)
  have e : (BitVec.ofInt 64 4294967295).toNat = 2 ^ 32 - 1 := by decide
  have e2 : (BitVec.ofInt 64 (n : Int)).toNat = n := by simp; omega
  rw [BitVec.toNat_and, e, e2, Nat.and_two_pow_sub_one_eq_mod, Nat.mod_eq_of_lt (by omega)]
  simp [IntKind.wrap, IntKind.bits, IntKind.signed]; omega
theorem wrapU {n : Nat} (h : n ≤ 1000) : IntKind.u64.wrap (n : Int) = n := by simp [IntKind.wrap, IntKind.bits, IntKind.signed]; omega
theorem wrap_kc {k c : Nat} (h : k + c ≤ 1000) : IntKind.i64.wrap ((k : Int) + (c : Int)) = ((k + c : Nat) : Int) := by rw [IntKind.wrap_i64]; omega
/-- the first k cells of a row hold one byte -/
def Fill (cur : List Value) (b : UInt8) (k : Nat) : Prop := ∀ j, j < k → cur[j]? = some (.int .u8 (b.toNat : Int))
theorem fill_splice {cur : List Value} {b : UInt8} {k c : Nat} (h : Fill cur b k) (hk : k ≤ cur.length) : Fill (splice cur k (bys (List.replicate c b))) b (k + c) := by
  intro j hj
  unfold splice
  rcases Nat.lt_or_ge j k with h1 | h1
  · rw [List.getElem?_append_left (by simp; omega), List.getElem?_take_of_lt h1]; exact h j h1
  · rw [List.getElem?_append_right (by simp; omega), List.length_take, Nat.min_eq_left hk, List.getElem?_append_left (by simp; omega), bys_get _ _ (by simp; omega)]
    simp
theorem fill_load {w : World} {B k c : Nat} {cur : List Value} {T : TypeId} {b : UInt8} (hg : w.heap[B]? = some (.cells cur.toArray T (0, 0))) (hf : Fill cur b k) (hc : c ≤ k) {j : Nat} {v : Value} (hj : (bys (List.replicate c b))[j]? = some v) : w.cell? ((⟨B, 0, none⟩ : Addr).add j) = some v := by
  have hi : j < c := by
    rcases Nat.lt_or_ge j c with h | h
    · exact h
    · rw [List.getElem?_eq_none (by simpa [bys] using h)] at hj; cases hj
  rw [bys_get _ _ (by simpa using hi)] at hj
  cases hj
  have := hf j (by omega)
  rw [Addr.add_lit, Nat.zero_add]
  simp [World.cell?, hg, this]
theorem fill_seen {w : World} {B n : Nat} {cur : List Value} {T : TypeId} {b : UInt8} (hg : w.heap[B]? = some (.cells cur.toArray T (0, 0))) (hf : Fill cur b n) (hn : n ≤ maxLen) : Seen w (.slice (some ⟨B, 0, none⟩) n n) (bys (List.replicate n b)) := by
  refine ⟨some ⟨B, 0, none⟩, n, by simp [bys], by simp [bys], hn, fun _ => ⟨B, 0, rfl, (Array.getElem?_eq_some_iff.1 hg).1, fun i u hu => ?_⟩⟩
  have hi : i < n := by
    rcases Nat.lt_or_ge i n with h | h
    · exact h
    · rw [List.getElem?_eq_none (by simpa [bys] using h)] at hu; cases hu
  rw [bys_get _ _ (by simpa using hi)] at hu
  cases hu
  have := hf i hi
  simp [World.cell?, hg, this]
end G294
namespace Go.Proofs.Ytdbgkpmdimapdaa
open Go.RowKit G294

set_option maxRecDepth 100000 in
set_option maxHeartbeats 1000000 in
theorem mul64_one (n : Nat) (w : World) (hn : n ≤ 200) : Calls Try.prog 113 #[.int .u64 1, .int .u64 n] w fun e w' => e = .returned (.tuple #[.int .u64 0, .int .u64 n]) ∧ w = w' := by
  have ha := and32 hn
  have h1 : bits BinOp.and IntKind.u64 1 4294967295 = 1 := and32 (n := 1) (by omega)
  have h0 : bits BinOp.and IntKind.u64 0 4294967295 = 0 := and32 (n := 0) (by omega)
  have hw := wrapU (n := n) (by omega)
  have hd : (n : Int) / 4294967296 = 0 := by omega
  go_enter Try.func113, Try.ntmps113
  go_wp2_with fail
  go_ret2
  refine ⟨?_, rfl⟩
  simp [ha, h1, h0, hd]

set_option maxRecDepth 100000 in
set_option maxHeartbeats 1000000 in
theorem mul_one (n : Nat) (w : World) (hn : n ≤ 200) : Calls Try.prog 95 #[.int .u64 1, .int .u64 n] w fun e w' => e = .returned (.tuple #[.int .u64 0, .int .u64 n]) ∧ w = w' := by
  have H := Lib.hid (fun W => mul64_one n W hn)
  go_enter Try.func95, Try.ntmps95
  go_wp2_with fail
  refine (H.out _).mono ?_
  rintro e w' ⟨rfl, rfl⟩
  go_wp2_with fail
  go_ret2
  exact ⟨rfl, rfl⟩

theorem sizeByteR : (Try.prog.info? 5).map (·.size) = some 1 := by kernel_rfl

set_option maxRecDepth 100000 in
set_option maxHeartbeats 1000000 in
theorem repeat_own (g n : Nat) (b : UInt8) (w : World) (hc : w.cell? ⟨g, 0, none⟩ = some (.int .u8 (b.toNat : Int))) (hg : g < w.heap.size) (h1 : 1 ≤ n) (h2 : n ≤ 200) :
    Calls Try.prog 80 #[.slice (some ⟨g, 0, none⟩) 1 1, .int .i64 n] w fun e w' => ∃ v, e = .returned v ∧ (∃ B, v = .slice (some ⟨B, 0, none⟩) n n) ∧ Seen w' v (bys (List.replicate n b)) ∧ TurnIn 0 0 w w' := by
  have HM := Lib.hid (fun W => mul_one n W h2)
  have hw := wrapU (n := n) (by omega)
  have hn0 : ((n : Int) == 0) = false := by rw [beq_eq_false_iff_ne]; omega
  obtain ⟨cs, hrunM, hle, _⟩ := Lib.run_makeNoZero (P := Try.prog) w #[3] 22 5 Try.underlying22 n (by omega)
  have hcall : (callFunc 96 #[.int .i64 (n : Int)]).run Try.prog w = .ok (.value (.slice (some ⟨w.heap.size, 0, none⟩) n cs.size)) ((w.alloc (.cells cs 5)).drewN 2) := by
    rw [run_callFunc_extern Try.func96 (by kernel_rfl) (by kernel_rfl) (by kernel_rfl) (e := Extern.BytealgMakeNoZero.makeNoZero #[3] #[22]) (by kernel_rfl), hrunM]
    rfl
  clear hrunM
  have i1 : (n : Int) ≤ (cs.size : Int) := by omega
  have hb2 : Below w.heap.size w ((w.alloc (.cells cs 5)).drewN 2) := below_drewN ((Below.refl _ _).alloc (Nat.le_refl _) _) 2
  have hcg : ((w.alloc (.cells cs 5)).drewN 2).cell? ⟨g, 0, none⟩ = some (.int .u8 (b.toNat : Int)) := (hb2.cell (p := ⟨g, 0, none⟩) hg).trans hc
  have HG2 : Hid (((w.alloc (.cells cs 5)).drewN 2).heap[w.heap.size]? = some (.cells cs.toList.toArray 5 (0, 0))) := by
    show _ = _
    rw [Array.toArray_toList]
    exact heap_alloc_new w _
  have HB2 := Lib.hid hb2
  have HLC : Hid (n ≤ cs.toList.length) := by show _ ≤ _; simpa using hle
  have HF0 : Hid (Fill (splice cs.toList 0 (bys (List.replicate 1 b))) b 1) := Lib.hid (by have := fill_splice (cur := cs.toList) (b := b) (k := 0) (c := 1) (fun j hj => by omega) (Nat.zero_le _); simpa using this)
  have HLS : Hid (n ≤ (splice cs.toList 0 (bys (List.replicate 1 b))).length) := by
    show _ ≤ _
    rw [length_splice _ _ _ (by simp [bys]; have := HLC.out; simp at this; omega)]
    exact HLC.out
  have hm1 : Nat.min 1 n = 1 := by simp [Nat.min_def]; omega
  generalize hcu : cs.toList = cu at *
  clear hb2 hcu
  go_enter Try.func80, Try.ntmps80
  go_wp2_with fail
  refine (HM.out _).mono ?_
  rintro e w' ⟨rfl, rfl⟩
  go_wp2_with (refine wpList_copy_splice rfl _ _ _ _ rfl 5 Try.underlying22 sizeByteR _ _ _ _ _ _ rfl rfl w.heap.size 0 cu 5 HG2.out (bys (List.replicate 1 b)) ?c1 ?c2 ?c3 (fun y hy => bys_one y _ hy) w.heap.size w HB2.out (Nat.le_refl _) ?_)
  case c1 => simp [bys]; omega
  case c2 =>
    intro j v hj
    obtain rfl : j = 0 := by
      rcases Nat.eq_zero_or_pos j with h | h
      · exact h
      · rw [List.getElem?_eq_none (by simp [bys]; omega)] at hj; cases hj
    simp [bys] at hj
    subst hj
    exact hc
  case c3 => simp [bys]; have := HLC.out; omega
  intro w3 HG3 hb3
  have HB3 := Lib.hid hb3
  clear hb3 HG2 HB2 hcg hcall hc
  go_wp2_with fail
  go_loopw [10] (fun q W => ∃ (k : Nat) (cur : List Value), 1 ≤ k ∧ k ≤ n ∧ q = .int .i64 k ∧ Hid (W.heap[w.heap.size]? = some (.cells cur.toArray 5 (0, 0))) ∧ Hid (n ≤ cur.length) ∧ Hid (Fill cur b k) ∧ Hid (Below w.heap.size w W)) (fun q _ => n - (intOf q).toNat)
  case atStart => exact ⟨1, splice cu 0 (bys (List.replicate 1 b)), Nat.le_refl _, h1, rfl, HG3, HLS, HF0, HB3⟩
  case round =>
    clear HG3 HLS HF0 HB3 HLC
    obtain ⟨k, cur, hk1, hkn, rfl, HG, HL, HF, HB⟩ := hrel
    by_cases hlt : k < n
    · have hki : (k : Int) < (n : Int) := by omega
      have hmin : min (k : Int) (n : Int) = (k : Int) := by omega
      obtain ⟨c, hcm⟩ : ∃ c, c = Nat.min k (n - k) := ⟨_, rfl⟩
      have hc1 : 1 ≤ c ∧ c ≤ k ∧ k + c ≤ n := by rw [hcm]; simp only [Nat.min_def]; split <;> omega
      have HCM := Lib.hid hcm
      have HLS2 : Hid (n ≤ (splice cur k (bys (List.replicate c b))).length) := by
        show _ ≤ _
        rw [length_splice _ _ _ (by simp [bys]; have := HL.out; omega)]
        exact HL.out
      have HF2 := Lib.hid (fill_splice (c := c) HF.out (by have := HL.out; omega))
      clear hcm
      go_wp2_with fail
      refine wp_region_tail (fun _ : World => True) 9 (by kernel_rfl) ?_
      have hS : (fun _ : World => True) w := trivial
      refine wpAnyT_take (i := 0) (oi := _) (v := ?vA0) rfl (by kernel_rfl) (by kernel_rfl) (by kernel_rfl) (by kernel_rfl) (fun _ _ _ h => h) (Or.inl ⟨by rfl, ?hyA0⟩) hS ?restA0
      case hyA0 => (intro W hW; obtain _ := hW; go_simp; try with_reducible rfl)
      simp only [List.getElem_toArray, List.getElem_cons_zero, List.getElem_cons_succ, Act.put, List.setIfInBounds_toArray, List.set_cons_zero, List.set_cons_succ]
      refine wpAnyT_take (i := 1) (oi := _) (v := ?vA1) rfl (by kernel_rfl) (by kernel_rfl) (by kernel_rfl) (by kernel_rfl) (fun _ _ _ h => h) (Or.inl ⟨by rfl, ?hyA1⟩) hS ?restA1
      case hyA1 => (intro W hW; obtain _ := hW; go_simp; try with_reducible rfl)
      simp only [List.getElem_toArray, List.getElem_cons_zero, List.getElem_cons_succ, Act.put, List.setIfInBounds_toArray, List.set_cons_zero, List.set_cons_succ]
      refine wpAnyT_take (i := 2) (oi := _) (v := ?vA2) rfl (by kernel_rfl) (by kernel_rfl) (by kernel_rfl) (by kernel_rfl) (fun _ _ _ h => h) (Or.inl ⟨by rfl, ?hyA2⟩) hS ?restA2
      case hyA2 => (intro W hW; obtain _ := hW; go_simp; try with_reducible rfl)
      simp only [List.getElem_toArray, List.getElem_cons_zero, List.getElem_cons_succ, Act.put, List.setIfInBounds_toArray, List.set_cons_zero, List.set_cons_succ]
      refine wpAnyT_take (i := 3) (oi := _) (v := ?vA3) rfl (by kernel_rfl) (by kernel_rfl) (by kernel_rfl) (by kernel_rfl) (fun _ _ _ h => h) (Or.inl ⟨by rfl, ?hyA3⟩) hS ?restA3
      case hyA3 => (intro W hW; obtain _ := hW; go_simp; try with_reducible rfl)
      simp only [List.getElem_toArray, List.getElem_cons_zero, List.getElem_cons_succ, Act.put, List.setIfInBounds_toArray, List.set_cons_zero, List.set_cons_succ]
      refine wpAnyT_take (i := 4) (oi := _) (v := ?vA4) rfl (by kernel_rfl) (by kernel_rfl) (by kernel_rfl) (by kernel_rfl) (fun _ _ _ h => h) (Or.inl ⟨by rfl, ?hyA4⟩) hS ?restA4
      case hyA4 => (intro W hW; obtain _ := hW; go_simp; try with_reducible rfl)
      simp only [List.getElem_toArray, List.getElem_cons_zero, List.getElem_cons_succ, Act.put, List.setIfInBounds_toArray, List.set_cons_zero, List.set_cons_succ]
      refine wpAnyT_take (i := 5) (oi := _) (v := ?vA5) rfl (by kernel_rfl) (by kernel_rfl) (by kernel_rfl) (by kernel_rfl) (fun _ _ _ h => h) (Or.inl ⟨by rfl, ?hyA5⟩) hS ?restA5
      case hyA5 => (intro W hW; obtain _ := hW; go_simp; try with_reducible rfl)
      simp only [List.getElem_toArray, List.getElem_cons_zero, List.getElem_cons_succ, Act.put, List.setIfInBounds_toArray, List.set_cons_zero, List.set_cons_succ]
      refine wpAnyT_take (i := 6) (oi := _) (v := ?vA6) rfl (by kernel_rfl) (by kernel_rfl) (by kernel_rfl) (by kernel_rfl) (fun _ _ _ h => h) (Or.inl ⟨by rfl, ?hyA6⟩) hS ?restA6
      case hyA6 => (intro W hW; obtain _ := hW; go_simp; try with_reducible rfl)
      simp only [List.getElem_toArray, List.getElem_cons_zero, List.getElem_cons_succ, Act.put, List.setIfInBounds_toArray, List.set_cons_zero, List.set_cons_succ]
      refine wpAnyT_one (i := 7) (o := _) rfl (by kernel_rfl) (fun K hK => ?_)
      refine step_copy_splice rfl _ _ _ _ rfl 5 Try.underlying22 sizeByteR _ _ _ _ _ _ rfl rfl w.heap.size k cur 5 HG.out (bys (List.replicate c b)) ?d1 ?d2 ?d3 (fun y hy => bys_one y _ hy) w.heap.size w HB.out.drew (Nat.le_refl _) ?_
      case d1 => have := HCM.out; simpa [bys] using this
      case d2 => exact fun _ => ⟨if_neg (by omega), _, rfl, fun j v hj => fill_load HG.out HF.out hc1.2.1 hj⟩
      case d3 => have := HL.out; simp [bys]; omega
      intro W4 hg4 hb4
      rw [show (bys (List.replicate c b)).length = c by simp [bys]]
      have HB4 := Lib.hid hb4
      clear hb4
      refine hK.out _ _ (fun h => trivial) ?_
      clear hK K
      try simp only [List.getElem_toArray, List.getElem_cons_zero, List.getElem_cons_succ, Act.put, List.setIfInBounds_toArray, List.set_cons_zero, List.set_cons_succ]
      refine wpAnyT_one (i := 8) (o := _) rfl (by kernel_rfl) (fun K hK => ?_)
      go_simp
      refine hK.out _ _ (fun h => trivial) ?_
      clear hK K
      try simp only [List.getElem_toArray, List.getElem_cons_zero, List.getElem_cons_succ, Act.put, List.setIfInBounds_toArray, List.set_cons_zero, List.set_cons_succ]
      refine wpAnyT_one (i := 9) (o := _) rfl (by kernel_rfl) (fun K hK => ?_)
      go_simp
      refine hK.out _ _ (fun h => trivial) ?_
      clear hK K
      try simp only [List.getElem_toArray, List.getElem_cons_zero, List.getElem_cons_succ, Act.put, List.setIfInBounds_toArray, List.set_cons_zero, List.set_cons_succ]
      refine wpAnyT_done (by kernel_rfl) ?_ _
      go_wp2_with fail
      go_roundw
      case rel => exact ⟨k + c, splice cur k (bys (List.replicate c b)), by omega, by omega, by rw [wrap_kc (by omega)], hg4, HLS2, HF2, HB4⟩
      case measure => simp only [intOf, wrap_kc (show k + c ≤ 1000 by omega)]; simp [intOf]; omega
    · obtain rfl : k = n := by omega
      have hki : ¬ (k : Int) < (k : Int) := by omega
      go_wp2_with fail
      go_ret
      exact ⟨_, rfl, ⟨_, rfl⟩, fill_seen HG.out HF.out (by unfold maxLen; omega), TurnIn.of_below HB.out⟩

end Go.Proofs.Ytdbgkpmdimapdaa
