/- Joined texts: CurA, Takes, IntsWalks, SomeOf, ShaLaw, CauMath, ShamMath. -/
import Derived.Test.YtgbhcjfnkjhkiaaDoorBd11
import Derived.Test.YtgbhcjfnkjhkiaaDoorBd02
import Derived.Deep.QuietTactic
import Derived.BigQuiet
import Derived.IntWalk
import Derived.Test.YtgbhcjfnkjhkiaaDoorBd04
import Derived.Test.YtgbhcjfnkjhkiaaDoorBd01
set_option linter.unusedSimpArgs false
set_option linter.unusedVariables false
/- Draws of secrets and of polynomials. -/
namespace G294
open Go Go.RowKit
theorem ints_new {w : World} {T : TypeId} {l : List Int} (hl : (ints l).length ≤ 1000) : ∀ i u, (ints l)[i]? = some u → (w.alloc (.cells (ints l).toArray T)).cell? ⟨w.heap.size, i, none⟩ = some u := fun i u hu => by
  rw [cell_of_row _ w.heap.size i _ T _ (heap_alloc_new w _), List.getElem?_toArray]; exact hu
end G294
namespace Go.Proofs.YtgbhcjfnkjhkiaaDoor
open Go.RowKit G294

def RetSec (w : World) (e : Ending) (w' : World) : Prop := ∃ (s : UInt8) (v : Value) (l : List UInt8) (n : Int), e = .returned (.tuple #[.int .u8 (s.toNat : Int), v, .int .i64 n]) ∧ l.length ≤ 20 ∧ OwnBytes 5 w' w.heap.size w'.heap.size v l ∧ TurnIn 0 0 w w'
def RetVB (w : World) (e : Ending) (w' : World) : Prop := ∃ (v : Value) (l : List UInt8) (x : UInt8), e = .returned (.tuple #[v, .int .u8 (x.toNat : Int)]) ∧ OwnBytes 5 w' w.heap.size w'.heap.size v l ∧ TurnIn 0 0 w w'

set_option maxRecDepth 100000 in
set_option maxHeartbeats 1000000 in
theorem drawShareSecret_any (v : Value) (l : List UInt8) (w : World) (hv : Seen w v (bys l)) : Calls Tryd.prog 35 #[v] w (RetSec w) := by
  obtain ⟨A, c, hvv⟩ := hv.len
  rw [bys_length] at hvv
  subst hvv
  have hc := cur_new hv
  have k0 := turn_alloc w (.cells #[.slice A l.length c, .int .i64 0, .int .u64 0] 94)
  have s0 := World.size_alloc w (.cells #[.slice A l.length c, .int .i64 0, .int .u64 0] 94)
  go_enter Tryd.func35, Tryd.ntmps35
  go_wp2_with fail
  refine (byte_any _ _ 0 _ hc (by omega)).mono ?_
  rintro e w1 ⟨x, rfl, hc1, k1⟩
  have s1 := k1.size
  have ta := turn_alloc w1 (.cells (ints [0, 1, 2, 3, 8, 9]).toArray 3)
  have HIN := Lib.hid (ints_new (w := w1) (T := 3) (l := [0, 1, 2, 3, 8, 9]) (by simp))
  have za := World.size_alloc w1 (.cells (ints [0, 1, 2, 3, 8, 9]).toArray 3)
  have hc2 := hc1.keep ta (by omega)
  have kk := turn_trans (turn_trans k0 k1 (by omega)) ta (by omega)
  go_wp2_with fail
  refine (among_any w.heap.size _ _ w1.heap.size 6 [0, 1, 2, 3, 8, 9] _ hc2 (by omega) (by simp) (by simp) (by simp) (by omega) (by omega) (by omega) HIN.out).mono ?_
  rintro e w2 ⟨r, rfl, hr, hc3, k2⟩
  have s2 := k2.size
  have hr0 : 0 ≤ r ∧ r ≤ 9 := by
    simp only [List.mem_cons, List.not_mem_nil, or_false] at hr
    omega
  obtain ⟨r, rfl⟩ := Int.eq_ofNat_of_zero_le hr0.1
  have hr9 : r ≤ 9 := by omega
  replace kk := turn_trans kk k2 (by omega)
  clear hr hr0 HIN hc hc1 hc2 k0 k1 ta
  go_wp2_with fail
  refine (vector_any _ _ _ r _ hc3 (by omega)).mono ?_
  rintro e w3 ⟨v3, l3, rfl, hl3, ho3, hc4, k3⟩
  have s3 := k3.size
  have HL3 := Lib.hid hl3
  have o3 := OwnBytes.of_made ho3
  have tb := turn_alloc w3 (.cells (ints [0, 1, 3, 5, 20, 21]).toArray 3)
  have HIN := Lib.hid (ints_new (w := w3) (T := 3) (l := [0, 1, 3, 5, 20, 21]) (by simp))
  have zb := World.size_alloc w3 (.cells (ints [0, 1, 3, 5, 20, 21]).toArray 3)
  have hc5 := hc4.keep tb (by omega)
  replace o3 := o3.keep tb (by omega)
  replace kk := turn_trans (turn_trans kk k3 (by omega)) tb (by omega)
  clear hl3 ho3 hc3 hc4 k3 tb k2
  go_wp2_with fail
  refine (among_any w.heap.size _ _ w3.heap.size 6 [0, 1, 3, 5, 20, 21] _ hc5 (by omega) (by simp) (by simp) (by simp) (by omega) (by omega) (by omega) HIN.out).mono ?_
  rintro e w4 ⟨n, rfl, hn, hc6, k4⟩
  replace o3 := o3.keep k4 (by omega)
  replace kk := turn_trans kk k4 (by omega)
  clear hn HIN
  go_wp2_with fail
  go_ret3
  exact ⟨x, v3, l3, n, rfl, by rw [HL3.out]; omega, o3.wid (by omega), kk⟩

set_option maxRecDepth 100000 in
set_option maxHeartbeats 1000000 in
theorem drawPolyAt_any (v : Value) (l : List UInt8) (w : World) (hv : Seen w v (bys l)) : Calls Tryd.prog 43 #[v] w (RetVB w) := by
  obtain ⟨A, c, hvv⟩ := hv.len
  rw [bys_length] at hvv
  subst hvv
  have hc := cur_new hv
  have k0 := turn_alloc w (.cells #[.slice A l.length c, .int .i64 0, .int .u64 0] 94)
  have s0 := World.size_alloc w (.cells #[.slice A l.length c, .int .i64 0, .int .u64 0] 94)
  go_enter Tryd.func43, Tryd.ntmps43
  go_wp2_with fail
  refine (pick_any _ _ 0 7 _ hc (by omega)).mono ?_
  rintro e w1 ⟨r, rfl, r0, r1, hc1, k1⟩
  have s1 := k1.size
  obtain ⟨r, rfl⟩ := Int.eq_ofNat_of_zero_le r0
  have hr6 : r ≤ 6 := by have : pickHi 7 = 6 := rfl; omega
  have kk := turn_trans k0 k1 (by omega)
  clear r0 r1 k0 k1 hc
  go_wp2_with fail
  refine (one_any _ _ _ 20 _ hc1 (by omega)).mono ?_
  rintro e w2 ⟨b, rfl, hc2, k2⟩
  have s2 := k2.size
  replace kk := turn_trans kk k2 (by omega)
  clear k2 hc1
  cases b
  · go_wp2_with fail
    refine (vector_any _ _ _ r _ hc2 (by omega)).mono ?_
    rintro e w3 ⟨v3, l3, rfl, hl3, ho3, hc4, k3⟩
    have s3 := k3.size
    have o3 := OwnBytes.of_made ho3
    replace kk := turn_trans kk k3 (by omega)
    clear hl3 ho3
    go_wp2_with fail
    refine (byte_any _ _ _ _ hc4 (by omega)).mono ?_
    rintro e w4 ⟨x, rfl, hc5, k4⟩
    replace o3 := o3.keep k4 (by omega)
    replace kk := turn_trans kk k4 (by omega)
    go_wp2_with fail
    go_ret2
    exact ⟨v3, l3, x, rfl, o3.wid (by omega), kk⟩
  · go_wp2_with fail
    refine (pick_any _ _ _ 2 _ hc2 (by omega)).mono ?_
    rintro e w5 ⟨q, rfl, q0, q1, hc3, k5⟩
    have s5 := k5.size
    obtain ⟨q, rfl⟩ := Int.eq_ofNat_of_zero_le q0
    have hq1 : q ≤ 1 := by have : pickHi 2 = 1 := rfl; omega
    have HE : Hid (20 + (q : Int) = ((20 + q : Nat) : Int)) := by show _ = _; omega
    replace kk := turn_trans kk k5 (by omega)
    clear q0 q1 k5 hc2
    go_wp2_with fail
    rw [HE.out]
    refine (vector_any _ _ _ (20 + q) _ hc3 (by omega)).mono ?_
    rintro e w3 ⟨v3, l3, rfl, hl3, ho3, hc4, k3⟩
    have s3 := k3.size
    have o3 := OwnBytes.of_made ho3
    replace kk := turn_trans kk k3 (by omega)
    clear hl3 ho3
    go_wp2_with fail
    refine (byte_any _ _ _ _ hc4 (by omega)).mono ?_
    rintro e w4 ⟨x, rfl, hc5, k4⟩
    replace o3 := o3.keep k4 (by omega)
    replace kk := turn_trans kk k4 (by omega)
    go_wp2_with fail
    go_ret2
    exact ⟨v3, l3, x, rfl, o3.wid (by omega), kk⟩

end Go.Proofs.YtgbhcjfnkjhkiaaDoor

/- What someOf takes. -/
namespace G294
def risesB (is : List Nat) (n : Nat) : Prop := (∀ i ∈ is, i < n) ∧ is.Pairwise (· < ·)
/-- what someOf answers: the numbers taken so far -/
def takes (n least : Nat) (b : Nat → Bool) : Nat → List Nat
  | 0 => []
  | t + 1 => if n - t ≤ least - (takes n least b t).length ∨ b t = true then takes n least b t ++ [t] else takes n least b t
theorem takes_inv {n least : Nat} (hl : least ≤ n) (b : Nat → Bool) : ∀ t, t ≤ n → risesB (takes n least b t) t ∧ least ≤ (takes n least b t).length + (n - t) ∧ (takes n least b t).length ≤ t
  | 0, _ => ⟨⟨by simp [takes], by simp [takes]⟩, by simp [takes]; omega, by simp [takes]⟩
  | t + 1, ht => by
    obtain ⟨⟨h1, h2⟩, h3, h4⟩ := takes_inv hl b t (by omega)
    unfold takes
    split
    · refine ⟨⟨fun i hi => ?_, ?_⟩, by simp; omega, by simp; omega⟩
      · rcases List.mem_append.1 hi with h | h
        · have := h1 i h; omega
        · simp at h; omega
      · rw [List.pairwise_append]
        exact ⟨h2, by simp, fun a ha c hc => by simp at hc; have := h1 a ha; omega⟩
    · rename_i hc
      exact ⟨⟨fun i hi => by have := h1 i hi; omega, h2⟩, by omega, by omega⟩
end G294

/- Contracts of the laws' helpers on []int: a copy, equality, marks, marks held. -/
namespace Go.Proofs.YtgbhcjfnkjhkiaaDoor
open Go.RowKit G294

theorem infoInt : (Tryd.prog.info? 3).map (fun i => (i.zero, i.size, i.bytes)) = some (some (.int .i64 0), 1, 8) := by kernel_rfl

theorem eq_atI {l m : List Int} {k : Nat} (hl : k < l.length) (hm : k < m.length) (h : l[k] ≠ m[k]) : (l == m) = false := by
  rw [beq_eq_false_iff_ne]
  intro e; subst e; exact h rfl

theorem eq_allI {l m : List Int} (hl : l.length = m.length) (h : ∀ i (h1 : i < l.length) (h2 : i < m.length), l[i] = m[i]) : (l == m) = true := by
  rw [beq_iff_eq]; exact List.ext_getElem hl h

end Go.Proofs.YtgbhcjfnkjhkiaaDoor

/- The laws' someOf. -/
namespace Go.Proofs.YtgbhcjfnkjhkiaaDoor
open Go.RowKit G294

/-- whether someOf takes number t for its byte -/
def evenAt (l : List UInt8) (t : Nat) : Bool := (l.getD t 0).toNat % 2 == 0

set_option maxRecDepth 100000 in
set_option maxHeartbeats 2000000 in
theorem someOf_own (n least : Nat) (v : Value) (l : List UInt8) (w : World) (hv : Seen w v (bys l)) (hn : n ≤ 1000) (hl : least ≤ n) :
    Calls Tryd.prog 39 #[.int .i64 n, .int .i64 least, v] w (RetInts 3 w ((takes n least (evenAt l) n).map fun (i : Nat) => (i : Int))) := by
  obtain ⟨A, c, rfl, hlc, hcm, hx⟩ := hv
  rw [bys_length] at hlc hx
  simp only [bys_length]
  unfold maxLen at hcm
  generalize hmm : l.length = m at *
  have HM := Lib.hid hmm
  have HX := Lib.hid hx
  clear hmm hx
  go_enter Tryd.func39, Tryd.ntmps39
  go_wp2_with fail
  go_loopw [7, 8] (fun o i wr => ∃ t : Nat, t ≤ n ∧ i = .int .i64 t ∧ wr.ownsRow w.heap.size 3 1 o (takes n least (evenAt l) t).length (ints ((takes n least (evenAt l) t).map fun (i : Nat) => (i : Int))) ∧ Below w.heap.size w wr)
    (fun _ i _ => n - (intOf i).toNat)
  case atStart => exact ⟨0, Nat.zero_le _, rfl, World.ownsRow_nil _ _ _ _, Below.refl _ _⟩
  case round =>
    obtain ⟨t, ht, rfl, hown, hb⟩ := hrel
    by_cases hlt : t < n
    · have hti : (t : Int) < (n : Int) := by omega
      obtain ⟨-, hinv, hlen⟩ := takes_inv hl (evenAt l) t (by omega)
      have HTK : Hid (takes n least (evenAt l) (t + 1) = if n - t ≤ least - (takes n least (evenAt l) t).length ∨ evenAt l t = true then takes n least (evenAt l) t ++ [t] else takes n least (evenAt l) t) := rfl
      obtain ⟨A7, n7, c7, rfl⟩ := own_isSlice hown
      have hn7 : n7 = (takes n least (evenAt l) t).length := by
        rcases hown.2 with ⟨hh, h0⟩ | ⟨g', c', cur, hh, _⟩
        · simp at hh; omega
        · simp at hh; exact hh.2.1
      subst hn7
      generalize hz : (takes n least (evenAt l) t).length = z at *
      have HZ := Lib.hid hz
      clear hz
      obtain ⟨x, hx1, hx2⟩ : ∃ x : UInt8, x = l.getD t 0 ∧ evenAt l t = (x.toNat % 2 == 0) := ⟨_, rfl, rfl⟩
      have HEV := Lib.hid hx2
      clear hx2
      have hxm : x.toNat < 256 := x.toNat_lt
      by_cases htm : t < m
      · have htmi : (t : Int) < (m : Int) := by omega
        have htmd : decide ((t : Int) < (m : Int)) = true := by simpa using htmi
        obtain ⟨b, off, rfl, hbl, hcell⟩ := HX.out (by omega)
        have hkl : t < l.length := by rw [HM.out]; exact htm
        have hcx : wr.cell? ⟨b, off + t, none⟩ = some (.int .u8 (x.toNat : Int)) := by
          have := (hb.cell (p := ⟨b, off + t, none⟩) hbl).trans (hcell t _ (bys_get l t hkl))
          rw [this, hx1]; simp [List.getD, hkl]
        have hwx : IntKind.i64.wrap (x.toNat : Int) = (x.toNat : Int) := IntWalk.i64_in _ (by omega)
        clear hcell hx1
        by_cases hc1 : n - t ≤ least - z
        · have hd1 : decide ((n : Int) - (t : Int) ≤ (least : Int) - (z : Int)) = true := by simp; omega
          have HC : Hid (n - t ≤ least - z ∨ evenAt l t = true) := Or.inl hc1
          go_wp2_with (at_builtin; refine wpList_append1 rfl _ _ _ rfl w.heap.size 3 _ _ Tryd.underlying47 infoInt rfl _ z _ rfl (hown.alloc _) wr.heap.size (.int .i64 t) rfl ?c1 rfl ?c2 ?c3 ?c4 ?_)
          case c1 => simp
          case c2 => omega
          case c3 => omega
          case c4 => have := hb.size; simp; omega
          intro v' w' hown' hg' _
          have hb' : Below w.heap.size w w' := below_append (hb.alloc hb.size _) (hown.alloc _) hg' (Nat.le_refl _) (by have := hb.size; simp; omega)
          have HO2 : Hid (w'.ownsRow w.heap.size 3 1 v' (takes n least (evenAt l) (t + 1)).length (ints ((takes n least (evenAt l) (t + 1)).map fun (i : Nat) => (i : Int)))) := by
            show World.ownsRow _ _ _ _ _ _ _
            rw [HTK.out, if_pos HC.out, List.map_append, ints_append, List.length_append, HZ.out]; exact hown'
          clear hown' hg'
          go_wp2_with fail
          go_roundw
          case rel => exact ⟨t + 1, by omega, by go_num, HO2.out, hb'⟩
          case measure => simp [intOf]; omega
        · have hd1 : decide ((n : Int) - (t : Int) ≤ (least : Int) - (z : Int)) = false := by simp; omega
          by_cases hev : x.toNat % 2 = 0
          · have HC : Hid (n - t ≤ least - z ∨ evenAt l t = true) := Or.inr (by rw [HEV.out]; simpa using hev)
            have hr0 : ((x.toNat : Int) % 2 == 0) = true := by simp; omega
            have hr1 : ((x.toNat : Int).tmod 2 == 0) = true := by rw [Int.tmod_eq_emod_of_nonneg (by omega)]; exact hr0
            go_wp2_with (at_builtin; refine wpList_append1 rfl _ _ _ rfl w.heap.size 3 _ _ Tryd.underlying47 infoInt rfl _ z _ rfl (hown.alloc _) wr.heap.size (.int .i64 t) rfl ?c1 rfl ?c2 ?c3 ?c4 ?_)
            case c1 => simp
            case c2 => omega
            case c3 => omega
            case c4 => have := hb.size; simp; omega
            intro v' w' hown' hg' _
            have hb' : Below w.heap.size w w' := below_append (hb.alloc hb.size _) (hown.alloc _) hg' (Nat.le_refl _) (by have := hb.size; simp; omega)
            have HO2 : Hid (w'.ownsRow w.heap.size 3 1 v' (takes n least (evenAt l) (t + 1)).length (ints ((takes n least (evenAt l) (t + 1)).map fun (i : Nat) => (i : Int)))) := by
              show World.ownsRow _ _ _ _ _ _ _
              rw [HTK.out, if_pos HC.out, List.map_append, ints_append, List.length_append, HZ.out]; exact hown'
            clear hown' hg'
            go_wp2_with fail
            go_roundw
            case rel => exact ⟨t + 1, by omega, by go_num, HO2.out, hb'⟩
            case measure => simp [intOf]; omega
          · have HC : Hid (¬ (n - t ≤ least - z ∨ evenAt l t = true)) := by
              rintro (h | h)
              · exact hc1 h
              · rw [HEV.out] at h; exact hev (by simpa using h)
            have hr0 : ((x.toNat : Int) % 2 == 0) = false := by simp; omega
            have hr1 : ((x.toNat : Int).tmod 2 == 0) = false := by rw [Int.tmod_eq_emod_of_nonneg (by omega)]; exact hr0
            have HO2 : Hid (wr.ownsRow w.heap.size 3 1 (.slice A7 z c7) (takes n least (evenAt l) (t + 1)).length (ints ((takes n least (evenAt l) (t + 1)).map fun (i : Nat) => (i : Int)))) := by
              show World.ownsRow _ _ _ _ _ _ _
              rw [HTK.out, if_neg HC.out, HZ.out]; exact hown
            go_wp2_with fail
            go_roundw
            case rel => exact ⟨t + 1, by omega, by go_num, HO2.out, hb⟩
            case measure => simp [intOf]; omega
      · have htmi : ¬ (t : Int) < (m : Int) := by omega
        have htmd : decide ((t : Int) < (m : Int)) = false := by simpa using htmi
        have hx0 : x = 0 := by
          rw [hx1]
          have : l.length ≤ t := by rw [HM.out]; omega
          simp [List.getD, this]
        have HC : Hid (n - t ≤ least - z ∨ evenAt l t = true) := Or.inr (by rw [HEV.out, hx0]; rfl)
        clear hx0 hx1 HEV hxm
        by_cases hc1 : n - t ≤ least - z
        · have hd1 : decide ((n : Int) - (t : Int) ≤ (least : Int) - (z : Int)) = true := by simp; omega
          go_wp2_with (at_builtin; refine wpList_append1 rfl _ _ _ rfl w.heap.size 3 _ _ Tryd.underlying47 infoInt rfl _ z _ rfl (hown.alloc _) wr.heap.size (.int .i64 t) rfl ?c1 rfl ?c2 ?c3 ?c4 ?_)
          try (case c1 => simp)
          case c2 => omega
          try (case c3 => omega)
          case c4 => have := hb.size; simp; omega
          intro v' w' hown' hg' _
          have hb' : Below w.heap.size w w' := below_append (hb.alloc hb.size _) (hown.alloc _) hg' (Nat.le_refl _) (by have := hb.size; simp; omega)
          have HO2 : Hid (w'.ownsRow w.heap.size 3 1 v' (takes n least (evenAt l) (t + 1)).length (ints ((takes n least (evenAt l) (t + 1)).map fun (i : Nat) => (i : Int)))) := by
            show World.ownsRow _ _ _ _ _ _ _
            rw [HTK.out, if_pos HC.out, List.map_append, ints_append, List.length_append, HZ.out]; exact hown'
          clear hown' hg'
          go_wp2_with fail
          go_roundw
          case rel => exact ⟨t + 1, by omega, by go_num, HO2.out, hb'⟩
          case measure => simp [intOf]; omega
        · have hd1 : decide ((n : Int) - (t : Int) ≤ (least : Int) - (z : Int)) = false := by simp; omega
          go_wp2_with (at_builtin; refine wpList_append1 rfl _ _ _ rfl w.heap.size 3 _ _ Tryd.underlying47 infoInt rfl _ z _ rfl (hown.alloc _) wr.heap.size (.int .i64 t) rfl ?c1 rfl ?c2 ?c3 ?c4 ?_)
          try (case c1 => simp)
          case c2 => omega
          try (case c3 => omega)
          case c4 => have := hb.size; simp; omega
          intro v' w' hown' hg' _
          have hb' : Below w.heap.size w w' := below_append (hb.alloc hb.size _) (hown.alloc _) hg' (Nat.le_refl _) (by have := hb.size; simp; omega)
          have HO2 : Hid (w'.ownsRow w.heap.size 3 1 v' (takes n least (evenAt l) (t + 1)).length (ints ((takes n least (evenAt l) (t + 1)).map fun (i : Nat) => (i : Int)))) := by
            show World.ownsRow _ _ _ _ _ _ _
            rw [HTK.out, if_pos HC.out, List.map_append, ints_append, List.length_append, HZ.out]; exact hown'
          clear hown' hg'
          go_wp2_with fail
          go_roundw
          case rel => exact ⟨t + 1, by omega, by go_num, HO2.out, hb'⟩
          case measure => simp [intOf]; omega
    · obtain rfl : t = n := by omega
      have hti : ¬ (t : Int) < (t : Int) := by omega
      go_wp2_with fail
      go_ret
      refine ⟨_, rfl, OwnInts.of_made ?_, TurnIn.of_below hb⟩
      rw [List.length_map]; exact hown

end Go.Proofs.YtgbhcjfnkjhkiaaDoor

/- The mathematics of the laws of chapter 7. -/
namespace G294
/-- shares of a polynomial determine it -/
theorem lag_of {t : List Sr} {p : List UInt8} {k : Nat} (ha : apartX (xF t) t.length) (hk : k ≤ t.length) (hp : p.length ≤ k) (h : ∀ i, i < k → yF t i = hor (xF t i) p) (x : UInt8) : lag (xF t) (yF t) x k = hor x p :=
  lag_eq (fun i j hij hj => ha i j hij (by omega)) (polyF.upto ⟨p, rfl, fun x => rfl⟩ hp) (fun i hi => (h i hi).symm) x
theorem xF_sha (s : UInt8) (l : List UInt8) (n i : Nat) (h : i < n) : xF (shaL s l n) i = UInt8.ofNat (i + 1) := by simp [xF, List.getD, shaL_get s l n i h]
theorem yF_sha (s : UInt8) (l : List UInt8) (n i : Nat) (h : i < n) : yF (shaL s l n) i = hor (xF (shaL s l n) i) (s :: l) := by
  rw [xF_sha s l n i h]; simp [yF, List.getD, shaL_get s l n i h]
theorem sha_ok (s : UInt8) (l : List UInt8) {n : Nat} (hn : n ≤ 20) : shrOk (shaL s l n) = true := by
  rw [shrOk_iff]
  refine ⟨by simpa using hn, fun i hi => ?_⟩
  rw [shaL_length] at hi
  rw [xF_sha s l n i hi]
  unfold prX
  split
  · subst i; decide
  · rw [xF_sha s l n (i - 1) (by omega), UInt8.lt_iff_toNat_lt, UInt8.toNat_ofNat', UInt8.toNat_ofNat']
    omega
/-- the polynomial of the random bytes passes through the shares -/
theorem rnd_pass {l : List Sr} (h : shrOk l = true) (h19 : l.length ≤ 19) (s : UInt8) {i : Nat} (hi : i < l.length) : hor (xF l i) (s :: rndL l s) = yF l i := by
  rw [← rnd_at h h19 s hi, rnd_val h h19]; rfl
/-- no other random bytes fit -/
theorem rnd_only {l : List Sr} (h : shrOk l = true) (s : UInt8) {q r : List UInt8} (hq : q.length = l.length) (hr : r.length = l.length) (e : ∀ i, i < l.length → hor (xF l i) (s :: q) = hor (xF l i) (s :: r)) : q = r := by
  have := hor_inj (l := s :: q) (m := s :: r) (xs := 0 :: (List.range l.length).map (xF l)) (by simp [hq, hr]) (by simp [hq]) (by
    rw [List.nodup_cons]
    refine ⟨fun hm => ?_, apart_nodup (shr_apart h)⟩
    obtain ⟨i, hi, e0⟩ := List.mem_map.1 hm
    exact shr_pos h i (List.mem_range.1 hi) e0) (fun x hx => by
    rcases List.mem_cons.1 hx with rfl | hx
    · rw [hor_at0, hor_at0]
    · obtain ⟨i, hi, rfl⟩ := List.mem_map.1 hx
      exact e i (List.mem_range.1 hi))
  exact (List.cons.inj this).2
theorem xF_ads (a b : List Sr) (i : Nat) (h : i < a.length) : xF (adsL a b) i = xF a i := by
  have : xF (adsL a b) i = ((adsL a b)[i]?.getD (0, 0)).1 := by simp [xF, List.getD]
  rw [this, adsL_get a b i h]; rfl
theorem yF_ads (a b : List Sr) (i : Nat) (h : i < a.length) : yF (adsL a b) i = yF a i ^^^ yF b i := by
  have : yF (adsL a b) i = ((adsL a b)[i]?.getD (0, 0)).2 := by simp [yF, List.getD]
  rw [this, adsL_get a b i h]; rfl
theorem xF_ref (a : List Sr) (r : List UInt8) (i : Nat) (h : i < a.length) : xF (refL a r) i = xF a i := by
  have : xF (refL a r) i = ((refL a r)[i]?.getD (0, 0)).1 := by simp [xF, List.getD]
  rw [this, refL_get a r i h]; rfl
theorem yF_ref (a : List Sr) (r : List UInt8) (i : Nat) (h : i < a.length) : yF (refL a r) i = yF a i ^^^ hor (xF a i) (0 :: r) := by
  have : yF (refL a r) i = ((refL a r)[i]?.getD (0, 0)).2 := by simp [yF, List.getD]
  rw [this, refL_get a r i h]; rfl
theorem shr_same {a b : List Sr} (h : shrOk a = true) (hl : b.length = a.length) (hx : ∀ i, i < a.length → xF b i = xF a i) : shrOk b = true := by
  rw [shrOk_iff] at h ⊢
  refine ⟨by omega, fun i hi => ?_⟩
  have := h.2 i (by omega)
  rw [hx i (by omega)]
  unfold prX at this ⊢
  split
  · simpa [*] using this
  · rw [hx (i - 1) (by omega)]
    simpa [*] using this
/-- added shares share the sum -/
theorem ads_lag {a b : List Sr} (h : adsOk a b = true) (x : UInt8) : shrOk (adsL a b) = true ∧ lag (xF (adsL a b)) (yF (adsL a b)) x (adsL a b).length = lag (xF a) (yF a) x a.length ^^^ lag (xF b) (yF b) x b.length := by
  simp only [adsOk, sameX, Bool.and_eq_true, decide_eq_true_eq] at h
  obtain ⟨⟨h1, h2⟩, h3, h4⟩ := h
  refine ⟨shr_same h1 (by simp) fun i hi => xF_ads a b i hi, ?_⟩
  rw [adsL_length, lag_congr (fun j hj => xF_ads a b j hj) (fun j hj => yF_ads a b j hj), lag_xor, ← h3]
  exact congrArg (fun z => lag (xF a) (yF a) x a.length ^^^ z) (lag_congr h4 (fun _ _ => rfl))
/-- refreshed shares share the same secret -/
theorem ref_lag {l : List Sr} {r : List UInt8} (h : refOk l r = true) (hr : r.length < l.length) : shrOk (refL l r) = true ∧ lag (xF (refL l r)) (yF (refL l r)) 0 (refL l r).length = lag (xF l) (yF l) 0 l.length := by
  simp only [refOk, Bool.and_eq_true, decide_eq_true_eq] at h
  refine ⟨shr_same h.1 (by simp) fun i hi => xF_ref l r i hi, ?_⟩
  rw [refL_length, lag_congr (fun j hj => xF_ref l r j hj) (fun j hj => yF_ref l r j hj), lag_xor]
  rw [lag_eq (Y := fun i => hor (xF l i) (0 :: r)) (f := fun x => hor x (0 :: r)) (shr_apart h.1) (polyF.upto ⟨0 :: r, rfl, fun x => rfl⟩ (by simp; omega)) (fun i _ => rfl)]
  rw [hor_at0, UInt8.xor_zero]
end G294

/- Cauchy's matrix has no kernel; any k rows of the code's matrix have none. -/
namespace G294
theorem gmul_left_comm (a b c : UInt8) : gmul a (gmul b c) = gmul b (gmul a c) := by rw [← gmul_assoc, gmul_comm a b, gmul_assoc]
/-- a sum over a list -/
def sumL {α : Type} (l : List α) (f : α → UInt8) : UInt8 := l.foldr (fun x s => f x ^^^ s) 0
@[simp] theorem sumL_nil {α : Type} (f : α → UInt8) : sumL [] f = 0 := rfl
@[simp] theorem sumL_cons {α : Type} (x : α) (l : List α) (f : α → UInt8) : sumL (x :: l) f = f x ^^^ sumL l f := rfl
theorem sumL_append {α : Type} (l m : List α) (f : α → UInt8) : sumL (l ++ m) f = sumL l f ^^^ sumL m f := by
  induction l with
  | nil => simp
  | cons x l ih => simp [ih, UInt8.xor_assoc]
theorem sumL_range (n : Nat) (f : Nat → UInt8) : sumL (List.range n) f = sumK n f := by
  induction n with
  | zero => rfl
  | succ n ih => rw [List.range_succ, sumL_append, ih]; simp [sumK]
theorem sumL_congr {α : Type} {l : List α} {f g : α → UInt8} (h : ∀ x ∈ l, f x = g x) : sumL l f = sumL l g := by
  induction l with
  | nil => rfl
  | cons x l ih => simp [h x (by simp), ih fun y hy => h y (by simp [hy])]
theorem sumL_xor {α : Type} (l : List α) (f g : α → UInt8) : sumL l (fun x => f x ^^^ g x) = sumL l f ^^^ sumL l g := by
  induction l with
  | nil => simp
  | cons x l ih => simp only [sumL_cons, ih]; exact x4 _ _ _ _
theorem sumL_mul {α : Type} (a : UInt8) (l : List α) (f : α → UInt8) : sumL l (fun x => gmul a (f x)) = gmul a (sumL l f) := by
  induction l with
  | nil => simp [gmul_zero]
  | cons x l ih => simp only [sumL_cons, ih, gmul_xor]
theorem sumL_filter {α : Type} (p : α → Bool) (l : List α) (f : α → UInt8) (h : ∀ x ∈ l, p x = false → f x = 0) : sumL (l.filter p) f = sumL l f := by
  induction l with
  | nil => rfl
  | cons x l ih =>
    have ih := ih fun y hy => h y (by simp [hy])
    cases e : p x with
    | true => simp [List.filter_cons, e, ih]
    | false => simp [List.filter_cons, e, ih, h x (by simp) e]
theorem sumL_zero {α : Type} (l : List α) : sumL l (fun _ => 0) = 0 := by
  induction l with
  | nil => rfl
  | cons x l ih => simp [ih]
theorem sumL_map {α β : Type} (g : α → β) (l : List α) (f : β → UInt8) : sumL (l.map g) f = sumL l (fun x => f (g x)) := by
  induction l with
  | nil => rfl
  | cons x l ih => simp [ih]
theorem cau_term {u v d : UInt8} (hu : u ≠ 0) (hv : v ≠ 0) : gmul (u ^^^ d) (ginv u) ^^^ gmul (v ^^^ d) (ginv v) = gmul (u ^^^ v) (gmul d (gmul (ginv v) (ginv u))) := by
  have e1 : gmul u (gmul d (gmul (ginv v) (ginv u))) = gmul d (ginv v) := by
    rw [gmul_left_comm u d, gmul_left_comm u (ginv v), gmul_ginv hu, gmul_one]
  have e2 : gmul v (gmul d (gmul (ginv v) (ginv u))) = gmul d (ginv u) := by
    rw [gmul_left_comm v d, ← gmul_assoc v, gmul_ginv hv, one_gmul]
  rw [xor_gmul, xor_gmul, xor_gmul, gmul_ginv hu, gmul_ginv hv, e1, e2, x4, x_self, UInt8.zero_xor, UInt8.xor_comm]
/-- Cauchy's matrix has no kernel -/
theorem cau_list : ∀ (ys xs : List UInt8) (a : UInt8 → UInt8), ys.length ≤ xs.length → xs.Nodup → ys.Nodup → (∀ x ∈ xs, ∀ y ∈ ys, x ≠ y) →
    (∀ x ∈ xs, sumL ys (fun y => gmul (a y) (ginv (x ^^^ y))) = 0) → ∀ y ∈ ys, a y = 0
  | [], _, _, _, _, _, _, _ => by simp
  | Y :: ys, [], _, h, _, _, _, _ => by simp at h
  | Y :: ys, X :: xs, a, hl, hx, hy, hd, hs => by
    have hx' := List.nodup_cons.1 hx
    have hy' := List.nodup_cons.1 hy
    have hXY : X ^^^ Y ≠ 0 := x_ne (hd X (by simp) Y (by simp))
    have mul : ∀ x ∈ X :: xs, a Y = sumL ys (fun y => gmul (a y) (gmul (x ^^^ Y) (ginv (x ^^^ y)))) := by
      intro x hx1
      have h1 := hs x hx1
      have hxY : x ^^^ Y ≠ 0 := x_ne (hd x hx1 Y (by simp))
      have h2 := congrArg (gmul (x ^^^ Y)) h1
      rw [sumL_cons, gmul_xor, gmul_zero, gmul_left_comm, gmul_ginv hxY, gmul_one, ← sumL_mul] at h2
      rw [x_eq h2]
      exact sumL_congr fun y _ => gmul_left_comm _ _ _
    have hb : ∀ y ∈ ys, gmul (a y) (gmul (y ^^^ Y) (ginv (X ^^^ y))) = 0 := by
      refine cau_list ys xs (fun y => gmul (a y) (gmul (y ^^^ Y) (ginv (X ^^^ y)))) (by simpa using hl) hx'.2 hy'.2 (fun x h1 y h2 => hd x (by simp [h1]) y (by simp [h2])) ?_
      intro x h1
      have hxX : x ^^^ X ≠ 0 := x_ne fun e => hx'.1 (e ▸ h1)
      have e := (mul x (by simp [h1])).symm.trans (mul X (by simp))
      have e2 : sumL ys (fun y => gmul (a y) (gmul (x ^^^ Y) (ginv (x ^^^ y))) ^^^ gmul (a y) (gmul (X ^^^ Y) (ginv (X ^^^ y)))) = 0 := by rw [sumL_xor, e, x_self]
      have e3 : sumL ys (fun y => gmul (x ^^^ X) (gmul (gmul (a y) (gmul (y ^^^ Y) (ginv (X ^^^ y)))) (ginv (x ^^^ y)))) = 0 := by
        rw [← e2]
        refine sumL_congr fun y h2 => ?_
        have n1 : x ^^^ y ≠ 0 := x_ne (hd x (by simp [h1]) y (by simp [h2]))
        have n2 : X ^^^ y ≠ 0 := x_ne (hd X (by simp) y (by simp [h2]))
        have t := cau_term (d := y ^^^ Y) n1 n2
        have w1 : x ^^^ y ^^^ (y ^^^ Y) = x ^^^ Y := by rw [UInt8.xor_assoc, ← UInt8.xor_assoc y y Y, x_self, UInt8.zero_xor]
        have w2 : X ^^^ y ^^^ (y ^^^ Y) = X ^^^ Y := by rw [UInt8.xor_assoc, ← UInt8.xor_assoc y y Y, x_self, UInt8.zero_xor]
        have w3 : x ^^^ y ^^^ (X ^^^ y) = x ^^^ X := by rw [x4, x_self, UInt8.xor_zero]
        rw [w1, w2, w3] at t
        rw [← gmul_xor, t]
        rw [gmul_assoc, gmul_assoc, gmul_left_comm (x ^^^ X) (a y)]
      rw [sumL_mul] at e3
      exact g_cancel hxX e3
    have ha : ∀ y ∈ ys, a y = 0 := fun y h2 => by
      have n1 : y ^^^ Y ≠ 0 := x_ne fun e => hy'.1 (e ▸ h2)
      have n2 : X ^^^ y ≠ 0 := x_ne (hd X (by simp) y (by simp [h2]))
      have := hb y h2
      rw [gmul_comm] at this
      exact g_cancel (g_ne n1 (ginv_ne n2)) this
    intro y h2
    rcases List.mem_cons.1 h2 with rfl | h2
    · rw [mul X (by simp), sumL_congr (g := fun _ => 0) (fun z hz => by rw [ha z hz, zero_gmul])]
      exact sumL_zero ys
    · exact ha y h2
theorem len_sub {α : Type} [DecidableEq α] : ∀ {l l' : List α}, l.Nodup → (∀ x ∈ l, x ∈ l') → l.length ≤ l'.length
  | [], _, _, _ => by simp
  | x :: l, l', hn, hs => by
    have h1 := List.nodup_cons.1 hn
    have hx := hs x (by simp)
    have := len_sub (l' := l'.erase x) h1.2 fun y hy => (List.mem_erase_of_ne (show y ≠ x from fun e => h1.1 (by rw [← e]; exact hy))).2 (hs y (by simp [hy]))
    rw [List.length_erase_of_mem hx] at this
    have : 0 < l'.length := List.length_pos_of_mem hx
    simp; omega
theorem len_parts {α : Type} (p : α → Bool) (l : List α) : (l.filter p).length + (l.filter fun x => !p x).length = l.length := by
  induction l with
  | nil => rfl
  | cons x l ih => cases e : p x <;> simp [List.filter_cons, e] <;> omega
end G294

/- Any k shares determine the secret. -/
namespace G294
def someL (s : UInt8) (l : List UInt8) (ids : List Nat) : List Sr := ids.map fun i => (UInt8.ofNat (i + 1), hor (UInt8.ofNat (i + 1)) (s :: l))
@[simp] theorem someL_length (s : UInt8) (l : List UInt8) (ids : List Nat) : (someL s l ids).length = ids.length := by simp [someL]
theorem someL_get (s : UInt8) (l : List UInt8) (ids : List Nat) (j i : Nat) (h : ids[j]? = some i) : (someL s l ids)[j]? = some (UInt8.ofNat (i + 1), hor (UInt8.ofNat (i + 1)) (s :: l)) := by simp [someL, h]
theorem someL_xy (s : UInt8) (l : List UInt8) (ids : List Nat) (j : Nat) (h : j < ids.length) : xF (someL s l ids) j = UInt8.ofNat (ids[j] + 1) ∧ yF (someL s l ids) j = hor (xF (someL s l ids) j) (s :: l) := by
  have e := someL_get s l ids j _ (List.getElem?_eq_getElem h)
  obtain ⟨e1, e2⟩ := at_xy e
  simp only at e1 e2
  exact ⟨e1.symm, by rw [← e2, ← e1]⟩
theorem rises_len {ids : List Nat} {n : Nat} (h : risesB ids n) : ids.length ≤ n := by
  have h1 : (ids.map id).Nodup := by
    rw [List.map_id]
    exact List.Pairwise.imp (fun hab => Nat.ne_of_lt hab) h.2
  have := len_sub (l := ids) (l' := List.range n) (by rw [List.map_id] at h1; exact h1) (fun x hx => List.mem_range.2 (h.1 x hx))
  simpa using this
theorem someL_ok (s : UInt8) (l : List UInt8) {ids : List Nat} {n : Nat} (h : risesB ids n) (hn : n ≤ 20) : shrOk (someL s l ids) = true := by
  have hl := rises_len h
  rw [shrOk_iff]
  refine ⟨by rw [someL_length]; omega, fun j hj => ?_⟩
  rw [someL_length] at hj
  have hb : ids[j] < n := h.1 _ (List.getElem_mem hj)
  rw [(someL_xy s l ids j hj).1]
  unfold prX
  split
  · rw [UInt8.lt_iff_toNat_lt, UInt8.toNat_ofNat']; simp; omega
  · rename_i hj0
    have hj1 : j - 1 < ids.length := by omega
    have hlt : ids[j - 1] < ids[j] := (List.pairwise_iff_getElem.1 h.2) (j - 1) j hj1 hj (by omega)
    rw [(someL_xy s l ids (j - 1) hj1).1, UInt8.lt_iff_toNat_lt, UInt8.toNat_ofNat', UInt8.toNat_ofNat']
    omega
theorem some_open (s : UInt8) (l : List UInt8) {ids : List Nat} {n k : Nat} (h : risesB ids n) (hn : n ≤ 20) (hk : k = l.length + 1) (hkl : k ≤ ids.length) :
    opnOk (someL s l ids) k = true ∧ opnR (someL s l ids) k = s ∧ intOk (someL s l ids) = true ∧ intR (someL s l ids) 0 = s := by
  have ok := someL_ok s l h hn
  have ho : opnOk (someL s l ids) k = true := by simp only [opnOk, ok, Bool.true_and, decide_eq_true_eq, someL_length]; omega
  have hi : intOk (someL s l ids) = true := by simp only [intOk, ok, Bool.true_and, decide_eq_true_eq, someL_length]; omega
  have ha := shr_apart ok
  refine ⟨ho, ?_, hi, ?_⟩
  · unfold opnR
    rw [if_pos ho]
    have := lag_of (t := someL s l ids) (p := s :: l) (k := k) ha (by rw [someL_length]; exact hkl) (by simp [hk]) (fun i hi' => (someL_xy s l ids i (by omega)).2) 0
    rw [hor_at0] at this
    simpa using this
  · unfold intR
    rw [if_pos hi]
    have := lag_of (t := someL s l ids) (p := s :: l) (k := (someL s l ids).length) ha (Nat.le_refl _) (by rw [someL_length]; simp; omega) (fun i hi' => (someL_xy s l ids i (by rw [someL_length] at hi'; exact hi')).2) 0
    rw [hor_at0] at this
    exact this
theorem sha_shared (s : UInt8) (l : List UInt8) {n k : Nat} (hn : n ≤ 20) (hk : k = l.length + 1) (hkn : k ≤ n) : isSOk (shaL s l n) k = true ∧ isSR (shaL s l n) k = true := by
  have ok := sha_ok s l hn
  have ho : isSOk (shaL s l n) k = true := by simp only [isSOk, ok, Bool.true_and, decide_eq_true_eq]; omega
  refine ⟨ho, ?_⟩
  unfold isSR
  rw [ho, Bool.true_and]
  simp only [onAll, decide_eq_true_eq, Int.toNat_natCast]
  intro i hi _
  rw [shaL_length] at hi
  rw [lag_of (t := shaL s l n) (p := s :: l) (k := k) (shr_apart ok) (by rw [shaL_length]; exact hkn) (by simp [hk]) (fun j hj => yF_sha s l n j (by omega))]
  exact (yF_sha s l n i hi).symm
end G294
