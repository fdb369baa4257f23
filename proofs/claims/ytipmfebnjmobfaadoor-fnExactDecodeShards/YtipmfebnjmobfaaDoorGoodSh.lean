/- Valid shards: the program's goodShards, the model's l3Shards; the model's l3All. -/
import Derived.Test.YtipmfebnjmobfaaDoorShardArgs
import Derived.Test.YtipmfebnjmobfaaDoorJoin
import Derived.Test.YtipmfebnjmobfaaDoorIntsWalks
set_option linter.unusedSimpArgs false
set_option linter.unusedVariables false
namespace G294
open Go Go.RowKit
/-- the number of the last of the first k -/
def lastNo (l : List Sh) : Nat → Int
  | 0 => -1
  | k + 1 => (l.getD k (0, [])).1
/-- the numbers rise strictly from 0 on and stay below n -/
def risesN (n : Int) (l : List Sh) : Bool := (List.range l.length).all fun i => decide (lastNo l i < (l.getD i (0, [])).1 ∧ (l.getD i (0, [])).1 < n)
def shardsOk (l : List Sh) (n : Int) : Bool := risesN n l && textsOk (l.map (·.2))
theorem rises_at (n : Int) (l : List Sh) : risesN n l = true ↔ ∀ (i : Nat) (s : Sh), l[i]? = some s → lastNo l i < s.1 ∧ s.1 < n := by
  unfold risesN
  rw [List.all_eq_true]
  constructor
  · intro h i s hi
    have hl := (List.getElem?_eq_some_iff.1 hi).1
    have h3 := h i (List.mem_range.2 hl)
    rw [decide_eq_true_eq] at h3
    have e : l.getD i (0, []) = s := by simp [List.getD, hi]
    rw [e] at h3
    exact h3
  · intro h i hi
    have hl := List.mem_range.1 hi
    have e : l.getD i (0, []) = l[i] := by simp [List.getD, hl]
    rw [decide_eq_true_eq, e]
    exact h i l[i] (List.getElem?_eq_getElem hl)
theorem rises_false {n : Int} {l : List Sh} {i : Nat} {s : Sh} (hi : l[i]? = some s) (h : ¬ (lastNo l i < s.1 ∧ s.1 < n)) : risesN n l = false := by
  rw [Bool.eq_false_iff]
  intro ht
  exact h ((rises_at n l).1 ht i s hi)
theorem lastNo_succ {l : List Sh} {k : Nat} {s : Sh} (h : l[k]? = some s) : lastNo l (k + 1) = s.1 := by simp [lastNo, List.getD, h]
theorem all_ints (n : Nat) : (List.range (n + 1)).map (fun i : Nat => (i : Int)) = (List.range n).map (fun i : Nat => (i : Int)) ++ [(n : Int)] := by simp [List.range_succ]
end G294
namespace Go.Proofs.YtipmfebnjmobfaaDoor
open Go.RowKit G294

set_option maxRecDepth 100000 in
set_option maxHeartbeats 2000000 in
theorem goodShards_any (v : Value) (l : List Sh) (m : Int) (w : World) (hv : SeenH w v l) (hn : l.length ≤ 1048576) : Calls Tryd.prog 64 #[v, .int .i64 m] w (RetBool w (shardsOk l m)) := by
  have HV := Lib.hid hv
  obtain ⟨A, c, rfl, hlc, hcm, hx⟩ := hv
  unfold maxLen at hcm
  generalize hnn : l.length = n at *
  have HN := Lib.hid hnn
  clear hnn
  go_enter Tryd.func64, Tryd.ntmps64
  go_wp2_with fail
  go_loopw [5, 10] (fun q i wr => ∃ (k : Nat) (la : Int), k ≤ n ∧ i = .int .i64 k ∧ q = .int .i64 la ∧ Hid (la = lastNo l k) ∧ Hid (∀ j s, l[j]? = some s → j < k → lastNo l j < s.1 ∧ s.1 < m) ∧ Below w.heap.size w wr)
    (fun _ i _ => n - (intOf i).toNat)
  case atStart => exact ⟨0, -1, Nat.zero_le _, rfl, rfl, Eq.refl (-1 : Int), (fun j s hj h => by omega), Below.refl _ _⟩
  case round =>
    obtain ⟨k, la, hk, rfl, rfl, HLA, HE, hb⟩ := hrel
    by_cases hlt : k < n
    · obtain ⟨b, off, rfl, hbl, hcell⟩ := hx (by omega)
      obtain ⟨⟨no, s⟩, hks⟩ := at_lt HN.out hlt
      have hc1 := (hb.cell (p := ⟨b, off + k * 2, none⟩) hbl).trans (hcell k _ hks).1
      have hc2 := (hb.cell (p := ⟨b, off + k * 2 + 1, none⟩) hbl).trans (hcell k _ hks).2
      simp only at hc1 hc2
      have hki : (k : Int) < (n : Int) := by omega
      have hb2 := hb.alloc hb.size (.cells #[.int .i64 no, .string (str s)] 35)
      have HLN : Hid (no = lastNo l (k + 1)) := (lastNo_succ hks).symm
      clear hcell hx
      by_cases h1 : la < no
      · have t1 : decide (no ≤ la) = false := by simp; omega
        by_cases h2 : no < m
        · have t2 : decide (m ≤ no) = false := by simp; omega
          have HK : Hid (∀ j s, l[j]? = some s → j < k + 1 → lastNo l j < s.1 ∧ s.1 < m) := fun j s' hj h => by
            rcases Nat.lt_or_ge j k with h' | h'
            · exact HE.out j s' hj h'
            · obtain rfl : j = k := by omega
              obtain rfl : (no, s) = s' := Option.some.inj (hks.symm.trans hj)
              rw [← HLA.out]; exact ⟨h1, h2⟩
          clear hks
          go_wp2_with fail
          go_roundw
          case rel => exact ⟨k + 1, no, by omega, by go_num, rfl, HLN, HK, hb2⟩
          case measure => simp [intOf]; omega
        · have t2 : decide (m ≤ no) = true := by simp; omega
          have HF : Hid (shardsOk l m = false) := by show shardsOk l m = false; rw [shardsOk, rises_false hks (by simp only; omega)]; rfl
          clear hks
          go_wp2_with fail
          go_ret
          exact ⟨by rw [HF.out]; rfl, TurnIn.of_below hb2⟩
      · have t1 : decide (no ≤ la) = true := by simp; omega
        have HF : Hid (shardsOk l m = false) := by show shardsOk l m = false; rw [shardsOk, rises_false hks (by rw [← HLA.out]; simp only; omega)]; rfl
        clear hks
        go_wp2_with fail
        go_ret
        exact ⟨by rw [HF.out]; rfl, TurnIn.of_below hb2⟩
    · obtain rfl : k = n := by omega
      have hki : ¬ (k : Int) < (k : Int) := by omega
      have HR : Hid (shardsOk l m = textsOk (l.map (·.2))) := by
        show _ = _
        rw [shardsOk, (rises_at m l).2 (fun j s hj => HE.out j s hj (by have := (List.getElem?_eq_some_iff.1 hj).1; rw [HN.out] at this; exact this))]; rfl
      have hbs := hb.size
      go_wp2_with fail
      refine (textsOf_own _ l _ (HV.out.below hb) (by rw [HN.out]; exact hn)).mono ?_
      rintro e w2 ⟨v2, rfl, hO, k2⟩
      have HO := Lib.hid hO
      clear hO
      go_wp2_with fail
      refine (equallyLong_any _ _ _ HO.out.seen).mono ?_
      rintro e w' ⟨rfl, rfl⟩
      go_wp2_with fail
      go_ret
      exact ⟨by rw [HR.out]; rfl, TurnIn.of_below (k2.base hb (by omega) (by omega))⟩

set_option maxRecDepth 100000 in
set_option maxHeartbeats 1000000 in
theorem l3All_own (n : Nat) (w : World) (hn : n ≤ 1000) : Calls Tryd.prog 110 #[.int .i64 n] w (RetInts 3 w ((List.range n).map fun i : Nat => (i : Int))) := by
  go_enter Tryd.func110, Tryd.ntmps110
  go_wp2_with fail
  go_loopw [3, 4] (fun o i wr => ∃ k : Nat, k ≤ n ∧ i = .int .i64 k ∧ wr.ownsRow w.heap.size 3 1 o k (ints ((List.range k).map fun i : Nat => (i : Int))) ∧ Below w.heap.size w wr)
    (fun _ i _ => n - (intOf i).toNat)
  case atStart => exact ⟨0, Nat.zero_le _, rfl, World.ownsRow_nil _ _ _ _, Below.refl _ _⟩
  case round =>
    obtain ⟨k, hk, rfl, hown, hb⟩ := hrel
    by_cases hlt : k < n
    · have hki : (k : Int) < (n : Int) := by omega
      have hbs := hb.size
      go_wp2_with (at_builtin; refine wpList_append1 rfl _ _ _ rfl w.heap.size 3 _ _ Tryd.underlying56 infoInt rfl _ k _ rfl (hown.alloc _) wr.heap.size (.int .i64 k) rfl ?c1 rfl ?c2 ?c3 ?c4 ?_)
      case c1 => simp
      case c2 => omega
      case c3 => omega
      case c4 => simp; omega
      intro v' w' hown' hg' _
      have hb' : Below w.heap.size w w' := below_append (hb.alloc hb.size _) (hown.alloc _) hg' (Nat.le_refl _) (by simp; omega)
      have hown2 : w'.ownsRow w.heap.size 3 1 v' (k + 1) (ints ((List.range (k + 1)).map fun i : Nat => (i : Int))) := by
        rw [all_ints, ints_append]; exact hown'
      clear hown' hg'
      go_wp2_with fail
      go_roundw
      case rel => exact ⟨k + 1, by omega, by go_num, hown2, hb'⟩
      case measure => simp [intOf]; omega
    · obtain rfl : k = n := by omega
      have hki : ¬ (k : Int) < (k : Int) := by omega
      go_wp2_with fail
      go_ret
      exact ⟨_, rfl, OwnInts.of_made (by simpa using hown), TurnIn.of_below hb⟩

end Go.Proofs.YtipmfebnjmobfaaDoor
