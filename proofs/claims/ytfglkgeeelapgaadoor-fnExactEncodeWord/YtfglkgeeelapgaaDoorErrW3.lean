/- Chapter 8: the generator: the model's. -/
import Derived.Test.YtfglkgeeelapgaaDoorErrW2
import Derived.StillTailTactics
set_option linter.unusedSimpArgs false
set_option linter.unusedVariables false
namespace G294
open Go Go.RowKit
theorem mul_set0 (r : UInt8) (a : List UInt8) (s k : Nat) : (mkRow s (mulF r a k)).set k (mulF r a k k ^^^ gmul (a.getD k 0) r) = mkRow s (fun p => if p = k then mulF r a k k ^^^ gmul (a.getD k 0) r else mulF r a k p) := mkRow_set _ _ _ _
theorem mul_set1 (r : UInt8) (a : List UInt8) (s k : Nat) : (mkRow s (fun p => if p = k then mulF r a k k ^^^ gmul (a.getD k 0) r else mulF r a k p)).set (k + 1) (mulF r a k (k + 1) ^^^ gmul (a.getD k 0) 1) = mkRow s (mulF r a (k + 1)) := by
  rw [mkRow_set]
  exact mkRow_congr fun p _ => mulF_step r a k p
theorem own_set8 {w : World} {E : TypeId} {base g n c : Nat} {l : List UInt8} (h : w.ownsRow base E 1 (.slice (some ⟨g, 0, none⟩) n c) n (bys l)) (k : Nat) (x : UInt8) : (w.setCell ⟨g, k, none⟩ (.int .u8 (x.toNat : Int))).ownsRow base E 1 (.slice (some ⟨g, 0, none⟩) n c) n (bys (l.set k x)) := by
  rw [bys_set]; exact (h.stored k _).1
theorem own_cell8 {w : World} {E : TypeId} {base g n c : Nat} {l : List UInt8} (h : w.ownsRow base E 1 (.slice (some ⟨g, 0, none⟩) n c) n (bys l)) (hn : n = l.length) {k : Nat} (hk : k < n) : w.cell? ⟨g, k, none⟩ = some (.int .u8 ((l.getD k 0).toNat : Int)) := by
  rw [h.cellAt k (by omega), bys_get l k (by omega)]; simp [List.getD, show k < l.length by omega]
end G294
namespace Go.Proofs.YtfglkgeeelapgaaDoor
open Go.RowKit G294

set_option maxHeartbeats 400000 in
theorem l8T_any (t : Int) (w : World) : Calls Tryd.prog 83 #[.int .i64 t] w fun e w' => e = .returned (.bool (errT t)) ∧ w = w' := by
  have HC : Hid (Calls Tryd.prog 69 #[.int .i64 t, .int .i64 1, .int .i64 4] w fun e w' => e = .returned (.bool (errT t)) ∧ w = w') := l1In_any t 1 4 w
  go_enter Tryd.func83, Tryd.ntmps83
  go_wp2_with fail
  refine HC.out.mono ?_
  rintro e w' ⟨rfl, rfl⟩
  go_wp2_with fail
  go_ret
  exact ⟨rfl, rfl⟩

set_option maxRecDepth 100000 in
set_option maxHeartbeats 4000000 in
theorem l8Mul_own (v : Value) (a : List UInt8) (gb : Nat) (r : UInt8) (w : World) (hv : Seen w v (bys a)) (h1 : 1 ≤ a.length) (h2 : a.length ≤ 20) (hgb : gb < w.heap.size) (c0 : w.cell? ⟨gb, 0, none⟩ = some (.int .u8 (r.toNat : Int))) (c1 : w.cell? ⟨gb, 1, none⟩ = some (.int .u8 1)) :
    Calls Tryd.prog 120 #[v, .slice (some ⟨gb, 0, none⟩) 2 2] w (RetBytes 5 w (mulR r a)) := by
  obtain ⟨i0, hi0, hz0, hz1, hz2⟩ := info_parts infoByte
  obtain ⟨A, c, rfl, hlc, hcm, hx⟩ := hv
  rw [bys_length] at hlc hx
  simp only [bys_length]
  unfold maxLen at hcm
  have HMR : Hid (mulR r a = mkRow (a.length + 1) (mulF r a a.length)) := rfl
  generalize hnn : a.length = n at *
  have HN := Lib.hid hnn
  clear hnn
  obtain ⟨b, off, rfl, hbl, hcell⟩ := hx (by omega)
  have HX := Lib.hid hcell
  clear hx hcell
  have hbe : ((n : Int) == 0) = false := by simp; omega
  obtain ⟨s, hs⟩ : ∃ s, s = n + 1 := ⟨_, rfl⟩
  obtain ⟨s2, hs2⟩ : ∃ s2, s2 = n + 2 := ⟨_, rfl⟩
  have hw2 : IntKind.i64.wrap ((n : Int) + 2) = (s2 : Int) := by rw [IntWalk.i64_in _ (by omega)]; omega
  have hw1 : IntKind.i64.wrap ((s2 : Int) - 1) = (s : Int) := by rw [IntWalk.i64_in _ (by omega)]; omega
  have hsn : n < s := by omega
  have hs21 : s ≤ 21 := by omega
  have HSN := Lib.hid hs
  rw [← hs] at HMR
  clear hs hs2
  have HL : Hid (∀ F : Nat → UInt8, s = (mkRow s F).length) := fun F => by simp
  have HG : Hid (∀ (F : Nat → UInt8) k, k < s → (mkRow s F).getD k 0 = F k) := fun F k hk => mkRow_getD s F k hk
  have HZ : Hid (bys (mkRow s (mulF r a 0)) = List.replicate s (.int .u8 0)) := bys_zero s _ fun j _ => mulF_zero r a j
  go_enter Tryd.func120, Tryd.ntmps120
  go_wp2_with (at_make; refine wpList_make_full _ rfl _ _ _ rfl w.heap.size _ i0 _ 1 Tryd.underlying22 hi0 hz0 hz1 _ _ _ _ s rfl rfl rfl rfl ?b2 ?b3 ?b4 ?_)
  case b2 => rw [hz2]; omega
  case b3 => unfold maxLen; omega
  case b4 => exact Nat.le_refl _
  intro w1 hown1 hg1
  have hb1 : Below w.heap.size w w1 := below_of_grown hg1 (Nat.le_refl _) (by simp)
  rw [toList_madeCells_one, ← HZ.out] at hown1
  clear hg1
  go_wp2_with fail
  go_loopw [27] (fun i wr => ∃ k : Nat, k ≤ n ∧ i = .int .i64 k ∧ wr.ownsRow w.heap.size 5 1 (.slice (some ⟨w.heap.size, 0, none⟩) s s) s (bys (mkRow s (mulF r a k))) ∧ Below w.heap.size w wr)
    (fun i _ => n - (intOf i).toNat)
  case atStart => exact ⟨0, Nat.zero_le _, rfl, hown1, hb1⟩
  case round =>
    obtain ⟨k, hk, rfl, hown, hb⟩ := hrel
    clear hown1 hb1
    by_cases hlt : k < n
    · have hki : (k : Int) < (n : Int) := by omega
      have hkl : k < a.length := by rw [HN.out]; exact hlt
      have hcx : wr.cell? ⟨b, off + k, none⟩ = some (.int .u8 ((a.getD k 0).toNat : Int)) := by
        have := (hb.cell (p := ⟨b, off + k, none⟩) hbl).trans (HX.out k _ (bys_get a k hkl))
        simpa [List.getD, hkl] using this
      generalize hxk : a.getD k 0 = x at *
      have HXK := Lib.hid hxk
      clear hxk
      generalize wr = wo at *
      go_wp2_with fail
      go_loopw [34] (fun j wq => ((j = .int .i64 0 ∧ wq.ownsRow w.heap.size 5 1 (.slice (some ⟨w.heap.size, 0, none⟩) s s) s (bys (mkRow s (mulF r a k)))) ∨
          (j = .int .i64 1 ∧ wq.ownsRow w.heap.size 5 1 (.slice (some ⟨w.heap.size, 0, none⟩) s s) s (bys (mkRow s (fun p => if p = k then mulF r a k k ^^^ gmul x r else mulF r a k p)))) ∨
          (j = .int .i64 2 ∧ wq.ownsRow w.heap.size 5 1 (.slice (some ⟨w.heap.size, 0, none⟩) s s) s (bys (mkRow s (mulF r a (k + 1)))))) ∧ Below w.heap.size w wq)
        (fun j _ => 2 - (intOf j).toNat)
      case atStart => exact ⟨.inl ⟨rfl, hown⟩, hb⟩
      case round =>
        obtain ⟨hd, hbq⟩ := hrel
        clear hown hb hcx
        have d0 := (hbq.cell (p := ⟨gb, 0, none⟩) hgb).trans c0
        have d1 := (hbq.cell (p := ⟨gb, 1, none⟩) hgb).trans c1
        rcases hd with ⟨rfl, ho⟩ | ⟨rfl, ho⟩ | ⟨rfl, ho⟩
        · have hce := own_cell8 ho (HL.out _) (k := k) (by omega)
          rw [HG.out _ k (by omega)] at hce
          have hfr := ho.frozenAt k
          have hst := own_set8 ho k (mulF r a k k ^^^ gmul x r)
          rw [← HXK.out, mul_set0, HXK.out] at hst
          have hbs : Below w.heap.size w (wr.setCell ⟨w.heap.size, k, none⟩ (.int .u8 ((mulF r a k k ^^^ gmul x r).toNat : Int))) := hbq.setCell (Nat.le_refl _) _
          have HST := Lib.hid hst
          have HBS := Lib.hid hbs
          have HC := Lib.hid (stillA (l1Times_u8 x r wr.drew))
          have hxor := xor_u8 (mulF r a k k) (gmul x r)
          have hks : (k : Int) < (s : Int) := by omega
          have hwk : IntKind.i64.wrap (k : Int) = (k : Int) := IntWalk.i64_in _ (by omega)
          generalize mulF r a k k = y at *
          clear hst hbs ho
          go_wp2_with fail
          refine wp_region_still_tail 11 (by kernel_rfl) (by kernel_rfl) ?_
          simp only [List.take_succ_cons, List.take_zero, List.drop_succ_cons, List.drop_zero]
          repeat (first | still_step | still_call (HC.out))
          refine wpStill_nil ?_
          go_wp2_with fail
          go_roundw
          case rel => exact ⟨.inr (.inl ⟨by go_num, HST.out⟩), below_drewN HBS.out _⟩
          case measure => simp [intOf]
        · have hce := own_cell8 ho (HL.out _) (k := k + 1) (by omega)
          rw [HG.out _ (k + 1) (by omega), if_neg (by omega)] at hce
          have hfr := ho.frozenAt (k + 1)
          have hst := own_set8 ho (k + 1) (mulF r a k (k + 1) ^^^ gmul x 1)
          rw [← HXK.out, mul_set1, HXK.out] at hst
          have hbs : Below w.heap.size w (wr.setCell ⟨w.heap.size, k + 1, none⟩ (.int .u8 ((mulF r a k (k + 1) ^^^ gmul x 1).toNat : Int))) := hbq.setCell (Nat.le_refl _) _
          have HST := Lib.hid hst
          have HBS := Lib.hid hbs
          have HC : Hid _ := Lib.hid (stillA (l1Times_u8 x 1 wr.drew))
          have hxor := xor_u8 (mulF r a k (k + 1)) (gmul x 1)
          generalize mulF r a k (k + 1) = y at *
          obtain ⟨q, hq⟩ : ∃ q, q = k + 1 := ⟨_, rfl⟩
          have hwk : IntKind.i64.wrap ((k : Int) + 1) = (q : Int) := by rw [IntWalk.i64_in _ (by omega)]; omega
          have hks : (q : Int) < (s : Int) := by omega
          rw [← hq] at hce hfr HBS
          have HST2 : Hid ((wr.setCell ⟨w.heap.size, q, none⟩ (.int .u8 ((y ^^^ gmul x 1).toNat : Int))).ownsRow w.heap.size 5 1 (.slice (some ⟨w.heap.size, 0, none⟩) s s) s (bys (mkRow s (mulF r a (k + 1))))) := by rw [hq]; exact HST
          clear hq HST
          clear hst hbs ho
          go_wp2_with fail
          refine wp_region_still_tail 11 (by kernel_rfl) (by kernel_rfl) ?_
          simp only [List.take_succ_cons, List.take_zero, List.drop_succ_cons, List.drop_zero]
          repeat (first | still_step | still_call (HC.out))
          refine wpStill_nil ?_
          go_wp2_with fail
          go_roundw
          case rel => exact ⟨.inr (.inr ⟨by go_num, HST2.out⟩), below_drewN HBS.out _⟩
          case measure => simp [intOf]
        · go_wp2_with fail
          go_roundw
          case rel => exact ⟨k + 1, by omega, by go_num, ho, hbq⟩
          case measure => simp [intOf]; omega
    · obtain rfl : k = n := by omega
      have hki : ¬ (k : Int) < (k : Int) := by omega
      go_wp2_with fail
      go_ret
      exact ⟨_, rfl, OwnBytes.of_made (by rw [HMR.out, ← HL.out]; exact hown), TurnIn.of_below hb⟩

end Go.Proofs.YtfglkgeeelapgaaDoor
