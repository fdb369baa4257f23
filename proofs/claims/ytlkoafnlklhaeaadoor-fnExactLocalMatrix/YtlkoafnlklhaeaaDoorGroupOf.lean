/- GroupOf: its mathematics, the program's and the model's. -/
import Derived.Test.YtlkoafnlklhaeaaDoorSorted
set_option linter.unusedSimpArgs false
set_option linter.unusedVariables false
namespace G294
open Go Go.RowKit
/-- the group of a shard, -1 for none -/
def grpN (d e g : Nat) (a : Int) : Int := if 0 ≤ a ∧ a ≤ (d : Int) - 1 then a / (e : Int) else if (d : Int) ≤ a ∧ a ≤ (d : Int) + g - 1 then a - d else -1
def grpOk (g e q a : Int) : Bool := locOk g e q && decide (0 ≤ grpN (g * e).toNat e.toNat g.toNat a)
def grpR (g e q a : Int) : Int := if grpOk g e q a = true then grpN (g * e).toNat e.toNat g.toNat a else 0
theorem toNat_mul2 (g e : Nat) : ((g : Int) * (e : Int)).toNat = g * e := by rw [← Int.natCast_mul, Int.toNat_natCast]
theorem grpR_no {g e q a : Int} (h : grpOk g e q a = false) : grpR g e q a = 0 := if_neg (by rw [h]; simp)
theorem grpR_yes {g e q : Nat} {a : Int} (h : grpOk g e q a = true) : grpR g e q a = grpN (g * e) e g a := by
  unfold grpR; rw [if_pos h, toNat_mul2, Int.toNat_natCast, Int.toNat_natCast]
theorem grpOk_yes {g e q : Nat} {a : Int} (h : locOk g e q = true) : grpOk g e q a = decide (0 ≤ grpN (g * e) e g a) := by
  unfold grpOk; rw [h, toNat_mul2, Int.toNat_natCast, Int.toNat_natCast, Bool.true_and]
theorem mem_grp {d e g : Nat} (he : 1 ≤ e) (hd : d = g * e) (a : Int) (i : Nat) (hi : i < g) : a ∈ grp2 d e g (i : Int) ↔ grpN d e g a = (i : Int) := by
  unfold grp2 grpN
  rw [if_pos ⟨by omega, by omega⟩, List.mem_append, List.mem_singleton]
  have h1 : a ∈ grp1 e d (i : Int) ↔ (0 ≤ a ∧ a ≤ (d : Int) - 1) ∧ a / (e : Int) = (i : Int) := by
    unfold grp1
    rw [List.mem_map]
    constructor
    · rintro ⟨t, ht, rfl⟩
      rw [List.mem_filter, List.mem_range, decide_eq_true_eq] at ht
      refine ⟨by omega, ?_⟩
      rw [← ht.2]; simp
    · rintro ⟨h1, h2⟩
      obtain ⟨t, rfl⟩ := Int.eq_ofNat_of_zero_le h1.1
      refine ⟨t, ?_, rfl⟩
      rw [List.mem_filter, List.mem_range, decide_eq_true_eq]
      refine ⟨by omega, ?_⟩
      rw [← h2]; simp
  rw [h1]
  by_cases ha : 0 ≤ a ∧ a ≤ (d : Int) - 1
  · rw [if_pos ha]
    constructor
    · rintro (h | h)
      · exact h.2
      · omega
    · intro h; exact .inl ⟨ha, h⟩
  · rw [if_neg ha]
    constructor
    · rintro (h | h)
      · exact absurd h.1 ha
      · rw [if_pos (by omega)]; omega
    · intro h
      split at h
      · right; omega
      · omega
theorem grpN_lt {d e g : Nat} (he : 1 ≤ e) (hd : d = g * e) (a : Int) : grpN d e g a < (g : Int) := by
  unfold grpN
  split
  · rename_i h
    obtain ⟨t, rfl⟩ := Int.eq_ofNat_of_zero_le h.1
    have hq : t / e < g := Nat.div_lt_of_lt_mul (by rw [Nat.mul_comm]; omega)
    have : (t : Int) / (e : Int) = ((t / e : Nat) : Int) := by simp
    rw [this]; omega
  · split <;> omega
/-- an index, or -1: not negative just where it is there -/
def RetIdx (w : World) (b : Bool) (e : Ending) (w' : World) : Prop := ∃ r : Int, e = .returned (.int .i64 r) ∧ decide (0 ≤ r) = b ∧ w = w'
def RetIntOkB (w : World) (n : Int) (ok : Bool) (e : Ending) (w' : World) : Prop := e = .returned (.tuple #[.int .i64 n, .bool ok]) ∧ TurnIn 0 0 w w'
end G294
namespace Go.Proofs.YtlkoafnlklhaeaaDoor
open Go.RowKit Go.Maps G294

set_option maxRecDepth 100000 in
set_option maxHeartbeats 1000000 in
theorem indexInts_any (v : Value) (l : List Int) (x : Int) (w : World) (hv : Seen w v (ints l)) : Calls Tryd.prog 174 #[v, .int .i64 x] w (RetIdx w (l.contains x)) := by
  obtain ⟨A, c, rfl, hlc, hcm, hx⟩ := hv
  rw [ints_length] at hlc hx
  simp only [ints_length]
  unfold maxLen at hcm
  generalize hnn : l.length = n at *
  have HN := Lib.hid hnn
  have HX := Lib.hid hx
  clear hnn hx
  generalize hbb : l.contains x = bb
  have HBB := Lib.hid hbb
  clear hbb
  go_enter Tryd.func174, Tryd.ntmps174
  go_wp2_with fail
  go_loop [8] (fun i => ∃ k : Nat, k ≤ n ∧ i = .int .i64 k ∧ Hid (∀ (j : Nat) (y : Int), j < k → l[j]? = some y → y ≠ x)) (fun i => n - (intOf i).toNat)
  case atStart => exact ⟨0, Nat.zero_le _, rfl, fun j y hj => by omega⟩
  case round =>
    obtain ⟨k, hk, rfl, HK⟩ := hrel
    by_cases hlt : k < n
    · have hki : (k : Int) < (n : Int) := by omega
      have hkl : k < l.length := by rw [HN.out]; exact hlt
      obtain ⟨b, off, rfl, hbl, hcell⟩ := HX.out (by omega)
      have hcx := hcell k _ (ints_get l k hkl)
      obtain ⟨y, hy⟩ : ∃ y, y = l[k] := ⟨_, rfl⟩
      rw [← hy] at hcx
      have HY := Lib.hid hy
      clear hcell hy
      by_cases he : x = y
      · have hb : (x == y) = true := by simpa using he
        have hc : l.contains x = true := by
          rw [List.contains_iff_mem]
          rw [he, HY.out]; exact List.getElem_mem hkl
        have HC := Lib.hid hc
        clear he hc
        go_wp2_with fail
        go_ret
        exact ⟨_, rfl, by rw [← HBB.out, HC.out]; simp, rfl⟩
      · have hb : (x == y) = false := by simpa using he
        have HE := Lib.hid he
        clear he
        go_wp2_with fail
        go_round
        case rel => exact ⟨k + 1, by omega, by go_num, fun j z hj hz => by
          by_cases e : j < k
          · exact HK.out j z e hz
          · obtain rfl : j = k := by omega
            rw [List.getElem?_eq_getElem hkl] at hz
            have := Option.some.inj hz
            rw [← this, ← HY.out]
            exact fun e => HE.out e.symm⟩
        case measure => simp [intOf]; omega
    · obtain rfl : k = n := by omega
      have hki : ¬ (k : Int) < (k : Int) := by omega
      have hc : l.contains x = false := by
        rw [← Bool.not_eq_true, List.contains_iff_mem]
        intro hm
        obtain ⟨j, hj⟩ := List.mem_iff_getElem?.1 hm
        exact HK.out j x (by have := (List.getElem?_eq_some_iff.1 hj).1; have := HN.out; omega) hj rfl
      have HC := Lib.hid hc
      clear hc
      go_wp2_with fail
      go_ret
      exact ⟨_, rfl, by rw [← HBB.out, HC.out]; simp, rfl⟩

set_option maxRecDepth 100000 in
set_option maxHeartbeats 1000000 in
theorem containsInts_any (v : Value) (l : List Int) (x : Int) (w : World) (hv : Seen w v (ints l)) : Calls Tryd.prog 128 #[v, .int .i64 x] w fun e w' => e = .returned (.bool (l.contains x)) ∧ w = w' := by
  have HV := Lib.hid hv
  clear hv
  generalize hb : l.contains x = b
  have HB := Lib.hid hb
  clear hb
  go_enter Tryd.func128, Tryd.ntmps128
  go_wp2_with fail
  refine (indexInts_any _ l x _ HV.out).mono ?_
  rintro e w' ⟨r, rfl, hr, rfl⟩
  rw [HB.out] at hr
  have HR := Lib.hid hr
  clear hr
  go_wp2_with fail
  go_ret
  exact ⟨by rw [← HR.out]; rfl, rfl⟩

set_option maxRecDepth 100000 in
set_option maxHeartbeats 1000000 in
theorem l4Group_A (g e q d : Nat) (a : Int) (w : World) (hg : 1 ≤ g ∧ g ≤ 4) (he : 1 ≤ e ∧ e ≤ 4) (hd16 : 1 ≤ d ∧ d ≤ 16) (HGE : Hid ((g : Int) * (e : Int) = (d : Int))) (h1 : 0 ≤ a ∧ a ≤ (d : Int) - 1) : Calls Tryd.prog 171 #[.agg #[.int .i64 g, .int .i64 e, .int .i64 q], .int .i64 a] w (RetInt w (grpN d e g a)) := by
  have a1 := turn_alloc w (.cells #[.int .i64 g, .int .i64 e, .int .i64 q] 73)
  have z1 := World.size_alloc w (.cells #[.int .i64 g, .int .i64 e, .int .i64 q] 73)
  have cg : (w.alloc (.cells #[.int .i64 g, .int .i64 e, .int .i64 q] 73)).cell? ⟨w.heap.size, 0, none⟩ = some (.int .i64 g) := by simp
  have ce : (w.alloc (.cells #[.int .i64 g, .int .i64 e, .int .i64 q] 73)).cell? ⟨w.heap.size, 1, none⟩ = some (.int .i64 e) := by simp
  have hen0 : ¬ e = 0 := by omega
  have HI : Hid (inB a 0 ((d : Int) - 1) = true) := by show inB a 0 ((d : Int) - 1) = true; unfold inB; simpa using h1
  have HV : Hid (grpN d e g a = a / (e : Int)) := by show grpN d e g a = _; unfold grpN; rw [if_pos h1]
  obtain ⟨h11, h12⟩ := h1
  obtain ⟨t, rfl⟩ := Int.eq_ofNat_of_zero_le h11
  have hkb : t / e ≤ t := Nat.div_le_self _ _
  obtain ⟨j, hj⟩ : ∃ j : Nat, t / e = j := ⟨_, rfl⟩
  rw [hj] at hkb
  have hq : (t : Int) / (e : Int) = (j : Int) := by rw [← hj]; simp
  have HV2 : Hid (grpN d e g (t : Int) = (j : Int)) := by show grpN d e g (t : Int) = _; rw [HV.out, hq]
  clear hj HV
  rw [HV2.out]
  go_enter Tryd.func171, Tryd.ntmps171
  go_wp2_with fail
  refine (l4Data_any (g : Int) (e : Int) (q : Int) _ (by rw [HGE.out]; omega)).mono ?_
  rintro e' w2 ⟨rfl, k2⟩
  rw [HGE.out]
  have de := cell_keepT ce (by omega) k2 (by omega)
  go_wp2_with fail
  refine (l1In_any _ _ _ _).mono ?_
  rintro e' w' ⟨rfl, rfl⟩
  rw [HI.out]
  go_wp2_with fail
  go_ret
  exact ⟨rfl, turn_trans a1 k2 (by omega)⟩

set_option maxRecDepth 100000 in
set_option maxHeartbeats 1000000 in
theorem l4Group_B (g e q d : Nat) (a : Int) (w : World) (hg : 1 ≤ g ∧ g ≤ 4) (he : 1 ≤ e ∧ e ≤ 4) (hd16 : 1 ≤ d ∧ d ≤ 16) (HGE : Hid ((g : Int) * (e : Int) = (d : Int))) (h1 : ¬ (0 ≤ a ∧ a ≤ (d : Int) - 1)) (h2 : (d : Int) ≤ a ∧ a ≤ (d : Int) + g - 1) : Calls Tryd.prog 171 #[.agg #[.int .i64 g, .int .i64 e, .int .i64 q], .int .i64 a] w (RetInt w (grpN d e g a)) := by
  have a1 := turn_alloc w (.cells #[.int .i64 g, .int .i64 e, .int .i64 q] 73)
  have z1 := World.size_alloc w (.cells #[.int .i64 g, .int .i64 e, .int .i64 q] 73)
  have cg : (w.alloc (.cells #[.int .i64 g, .int .i64 e, .int .i64 q] 73)).cell? ⟨w.heap.size, 0, none⟩ = some (.int .i64 g) := by simp
  have ce : (w.alloc (.cells #[.int .i64 g, .int .i64 e, .int .i64 q] 73)).cell? ⟨w.heap.size, 1, none⟩ = some (.int .i64 e) := by simp
  have hen0 : ¬ e = 0 := by omega
  have HI : Hid (inB a 0 ((d : Int) - 1) = false) := by show inB a 0 ((d : Int) - 1) = false; unfold inB; simpa using h1
  have HI2 : Hid (inB a (d : Int) ((d : Int) + g - 1) = true) := by show inB a (d : Int) ((d : Int) + g - 1) = true; unfold inB; simpa using h2
  have HV : Hid (grpN d e g a = a - d) := by show grpN d e g a = _; unfold grpN; rw [if_neg h1, if_pos h2]
  obtain ⟨h21, h22⟩ := h2
  clear h1
  rw [HV.out]
  go_enter Tryd.func171, Tryd.ntmps171
  go_wp2_with fail
  refine (l4Data_any (g : Int) (e : Int) (q : Int) _ (by rw [HGE.out]; omega)).mono ?_
  rintro e' w2 ⟨rfl, k2⟩
  rw [HGE.out]
  have dg := cell_keepT cg (by omega) k2 (by omega)
  go_wp2_with fail
  refine (l1In_any _ _ _ _).mono ?_
  rintro e' w' ⟨rfl, rfl⟩
  rw [HI.out]
  go_wp2_with fail
  refine (l1In_any _ _ _ _).mono ?_
  rintro e' w' ⟨rfl, rfl⟩
  rw [HI2.out]
  go_wp2_with fail
  go_ret
  exact ⟨rfl, turn_trans a1 k2 (by omega)⟩

set_option maxRecDepth 100000 in
set_option maxHeartbeats 1000000 in
theorem l4Group_C (g e q d : Nat) (a : Int) (w : World) (hg : 1 ≤ g ∧ g ≤ 4) (he : 1 ≤ e ∧ e ≤ 4) (hd16 : 1 ≤ d ∧ d ≤ 16) (HGE : Hid ((g : Int) * (e : Int) = (d : Int))) (h1 : ¬ (0 ≤ a ∧ a ≤ (d : Int) - 1)) (h2 : ¬ ((d : Int) ≤ a ∧ a ≤ (d : Int) + g - 1)) : Calls Tryd.prog 171 #[.agg #[.int .i64 g, .int .i64 e, .int .i64 q], .int .i64 a] w (RetInt w (grpN d e g a)) := by
  have a1 := turn_alloc w (.cells #[.int .i64 g, .int .i64 e, .int .i64 q] 73)
  have z1 := World.size_alloc w (.cells #[.int .i64 g, .int .i64 e, .int .i64 q] 73)
  have cg : (w.alloc (.cells #[.int .i64 g, .int .i64 e, .int .i64 q] 73)).cell? ⟨w.heap.size, 0, none⟩ = some (.int .i64 g) := by simp
  have ce : (w.alloc (.cells #[.int .i64 g, .int .i64 e, .int .i64 q] 73)).cell? ⟨w.heap.size, 1, none⟩ = some (.int .i64 e) := by simp
  have hen0 : ¬ e = 0 := by omega
  have HI : Hid (inB a 0 ((d : Int) - 1) = false) := by show inB a 0 ((d : Int) - 1) = false; unfold inB; simpa using h1
  have HI2 : Hid (inB a (d : Int) ((d : Int) + g - 1) = false) := by show inB a (d : Int) ((d : Int) + g - 1) = false; unfold inB; simpa using h2
  have HV : Hid (grpN d e g a = -1) := by show grpN d e g a = _; unfold grpN; rw [if_neg h1, if_neg h2]
  clear h1 h2
  rw [HV.out]
  go_enter Tryd.func171, Tryd.ntmps171
  go_wp2_with fail
  refine (l4Data_any (g : Int) (e : Int) (q : Int) _ (by rw [HGE.out]; omega)).mono ?_
  rintro e' w2 ⟨rfl, k2⟩
  rw [HGE.out]
  have dg := cell_keepT cg (by omega) k2 (by omega)
  go_wp2_with fail
  refine (l1In_any _ _ _ _).mono ?_
  rintro e' w' ⟨rfl, rfl⟩
  rw [HI.out]
  go_wp2_with fail
  refine (l1In_any _ _ _ _).mono ?_
  rintro e' w' ⟨rfl, rfl⟩
  rw [HI2.out]
  go_wp2_with fail
  go_ret
  exact ⟨rfl, turn_trans a1 k2 (by omega)⟩

end Go.Proofs.YtlkoafnlklhaeaaDoor
