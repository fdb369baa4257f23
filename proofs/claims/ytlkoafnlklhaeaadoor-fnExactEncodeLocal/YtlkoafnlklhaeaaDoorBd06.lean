/- Joined texts: Helpers, Helpers2, Helpers3, Helpers4, BytesOwn, Parity, LocMath. -/
import Derived.Test.YtlkoafnlklhaeaaDoorBd05
import Derived.Deep.CutRange
import Derived.Test.YtlkoafnlklhaeaaDoorBd02
import Derived.Test.YtlkoafnlklhaeaaDoorBd01
import Derived.Test.YtlkoafnlklhaeaaDoorBd04
set_option linter.unusedSimpArgs false
set_option linter.unusedVariables false
/- HelpersOf: its mathematics, and the program's. -/
namespace G294
/-- all of a list but one number -/
def notA (a : Int) (l : List Int) : List Int := l.filter fun x => !(x == a)
theorem notA_next (a : Int) (l : List Int) (k : Nat) (hk : k < l.length) : notA a (l.take (k + 1)) = notA a (l.take k) ++ (if (l[k] == a) = true then [] else [l[k]]) := by
  unfold notA
  rw [List.take_succ_eq_append_getElem hk, List.filter_append]
  by_cases h : l[k] = a <;> simp [h]
theorem notA_le (a : Int) (l : List Int) : (notA a l).length ≤ l.length := List.length_filter_le _ _
def hlpR (g e q a : Int) : List Int := if grpOk g e q a = true then notA a (grp2 (g * e).toNat e.toNat g.toNat (grpR g e q a)) else []
theorem hlpR_no {g e q a : Int} (h : grpOk g e q a = false) : hlpR g e q a = [] := if_neg (by rw [h]; simp)
theorem hlpR_yes {g e q : Nat} {a : Int} (h : grpOk g e q a = true) : hlpR g e q a = notA a (grp2 (g * e) e g (grpN (g * e) e g a)) := by
  unfold hlpR; rw [if_pos h, toNat_mul2, Int.toNat_natCast, Int.toNat_natCast, grpR_yes h]
/-- the members of a group, as the model finds them -/
def mem4 (d e g n : Nat) (r : Int) : List Int := ((List.range n).map fun i : Nat => (i : Int)).filter fun i => decide (grpN d e g i = r)
theorem mem4_all : ((List.range 5).all fun g => (List.range 5).all fun e => (List.range 5).all fun q => (List.range 4).all fun r => decide (e = 0) || decide (g ≤ r) || decide (mem4 (g * e) e g (g * e + g + q) (r : Int) = grp2 (g * e) e g (r : Int))) = true := by decide +kernel
theorem mem4_grp {g e q r : Nat} (hg : g ≤ 4) (he : 1 ≤ e ∧ e ≤ 4) (hq : q ≤ 4) (hr : r < g) : mem4 (g * e) e g (g * e + g + q) (r : Int) = grp2 (g * e) e g (r : Int) := by
  have h := mem4_all
  simp only [List.all_eq_true, List.mem_range] at h
  have h1 := h g (by omega) e (by omega) q (by omega) r (by omega)
  simp only [Bool.or_eq_true, decide_eq_true_eq] at h1
  rcases h1 with (h1 | h1) | h1
  · omega
  · omega
  · exact h1
end G294
namespace Go.Proofs.YtlkoafnlklhaeaaDoor
open Go.RowKit Go.Maps G294

set_option maxRecDepth 100000 in
set_option maxHeartbeats 1000000 in
theorem helpersOf_no (g e q a : Int) (w : World) (HN : Hid (grpOk g e q a = false)) : Calls Tryd.prog 125 #[locV g e q, .int .i64 a] w (RetIntsOk 3 w [] false) := by
  have a1 := turn_alloc w (.cells #[.int .i64 g, .int .i64 e, .int .i64 q] 73)
  have z1 := World.size_alloc w (.cells #[.int .i64 g, .int .i64 e, .int .i64 q] 73)
  go_enter Tryd.func125, Tryd.ntmps125
  go_wp2_with fail
  refine (groupOf_any g e q a _).mono ?_
  rintro e' w2 ⟨rfl, k2⟩
  rw [HN.out]
  have s2 := k2.size
  go_wp2_with fail
  go_ret2
  exact ⟨_, rfl, OwnInts.of_made (World.ownsRow_nil _ _ _ _), turn_trans a1 k2 (by omega)⟩

set_option maxRecDepth 100000 in
set_option maxHeartbeats 2000000 in
theorem helpersOf_yes (g e q r : Nat) (a : Int) (w : World) (hg : 1 ≤ g ∧ g ≤ 4) (he : 1 ≤ e ∧ e ≤ 4) (HL : Hid (grpOk g e q a = true)) (HR : Hid (grpR g e q a = (r : Int))) (hr : r < 4) : Calls Tryd.prog 125 #[locV g e q, .int .i64 a] w (RetIntsOk 3 w (notA a (grp2 (g * e) e g (r : Int))) true) := by
  have a1 := turn_alloc w (.cells #[.int .i64 g, .int .i64 e, .int .i64 q] 73)
  have z1 := World.size_alloc w (.cells #[.int .i64 g, .int .i64 e, .int .i64 q] 73)
  have cg := alloc_tri0 w (.int .i64 g) (.int .i64 e) (.int .i64 q) 73
  have ce := alloc_tri1 w (.int .i64 g) (.int .i64 e) (.int .i64 q) 73
  have cq := alloc_tri2 w (.int .i64 g) (.int .i64 e) (.int .i64 q) 73
  have hbd := mul_bd (a := (g : Int)) (b := (e : Int)) (by omega) (by omega)
  rw [← Int.natCast_mul] at hbd
  have HNN : Hid (g * e + g ≤ 1000) := by show g * e + g ≤ 1000; omega
  clear hbd
  generalize hL : notA a (grp2 (g * e) e g (r : Int)) = L
  have HLL := Lib.hid hL
  clear hL
  go_enter Tryd.func125, Tryd.ntmps125
  go_wp2_with fail
  refine (groupOf_any (g : Int) (e : Int) (q : Int) a _).mono ?_
  rintro e' w2 ⟨rfl, k2⟩
  rw [HL.out, HR.out]
  have s2 := k2.size
  have dg := cell_keepT cg (by omega) k2 (by omega)
  have de := cell_keepT ce (by omega) k2 (by omega)
  have dq := cell_keepT cq (by omega) k2 (by omega)
  clear cg ce cq
  go_wp2_with fail
  refine (groupsOf_own g e q _ hg he).mono ?_
  rintro e' w3 ⟨B, D, rfl, hB, hown, hG, k3⟩
  have s3 := k3.size
  have hwf : (Lit.int .i64 (r : Int)).wf = true := WalkArith.wf_i64 (by omega)
  obtain ⟨v, zs, hrun, hat, hoi, hzl, hback⟩ := groups_look hown lawInt Tryd.underlying141 zeroInts (by have := HNN.out; unfold maxLen; omega) (keyOf_int_mk Tryd.underlying3 hwf)
  have hzs := hG.looked hat hoi
  have hlk := hrun _ rfl
  have hsn : Seen w3 v (ints zs) := Seen.of_own hoi.1
  have hz1 : zs.length ≤ 1000 := by have := HNN.out; omega
  have HZS := Lib.hid hzs
  have HT : Hid (TurnIn 0 0 w w3) := turn_trans (turn_trans a1 k2 (by omega)) k3 (by omega)
  have hw3 : w.heap.size ≤ w3.heap.size := by omega
  clear hrun hat hoi hzl hback hzs hwf hown hG a1 k2 k3 dg de dq z1 s2 s3
  obtain ⟨A, c, rfl, hlc, hcm, hx⟩ := hsn
  rw [ints_length] at hlc hx
  simp only [ints_length] at hlk
  unfold maxLen at hcm
  generalize hnn : zs.length = n at *
  have HN := Lib.hid hnn
  have HX := Lib.hid hx
  clear hnn hx
  go_wp2_with fail
  go_loopw [8, 24] (fun o i wr => ∃ (k : Nat) (acc : List Int), k ≤ n ∧ i = .int .i64 k ∧ wr.ownsRow w3.heap.size 3 1 o acc.length (ints acc) ∧ Hid (acc = notA a (zs.take k)) ∧ acc.length ≤ k ∧ Below w3.heap.size w3 wr)
    (fun _ i _ => n - (intOf i).toNat)
  case atStart => exact ⟨0, [], Nat.zero_le _, rfl, World.ownsRow_nil _ _ _ _, by show [] = notA a (zs.take 0); simp [notA], Nat.le_refl _, Below.refl _ _⟩
  case round =>
    obtain ⟨k, acc, hk, rfl, hown, HACC, hak, hb⟩ := hrel
    have hbs := hb.size
    by_cases hlt : k < n
    · have hki : (k : Int) < (n : Int) := by omega
      have hkl : k < zs.length := by rw [HN.out]; exact hlt
      obtain ⟨b, off, rfl, hbl, hcell⟩ := HX.out (by omega)
      have hcx := (hb.cell (p := ⟨b, off + k, none⟩) hbl).trans (hcell k _ (ints_get zs k hkl))
      have HNX := Lib.hid (notA_next a zs k hkl)
      obtain ⟨y, hy⟩ : ∃ y, y = zs[k] := ⟨_, rfl⟩
      rw [← hy] at hcx
      have HY := Lib.hid hy
      clear hcell hy
      by_cases hya : y = a
      · have hyb : (y != a) = false := by simpa using hya
        have HA2 : Hid (acc = notA a (zs.take (k + 1))) := by show acc = _; rw [HNX.out, ← HY.out, hya, HACC.out]; simp
        clear hya
        go_wp2_with fail
        go_roundw
        case rel => exact ⟨k + 1, acc, by omega, by go_num, hown, HA2, by omega, hb⟩
        case measure => simp [intOf]; omega
      · have hyb : (y != a) = true := by simpa using hya
        have HA2 : Hid (acc ++ [y] = notA a (zs.take (k + 1))) := by show acc ++ [y] = _; rw [HNX.out, ← HY.out, HACC.out]; simp [hya]
        clear hya
        go_wp2_with (at_builtin; refine wpList_append1 rfl _ _ _ rfl w3.heap.size 3 _ _ Tryd.underlying97 infoIntG rfl _ acc.length _ rfl (hown.alloc _) wr.heap.size (.int .i64 y) rfl ?c1 rfl ?c2 ?c3 ?c4 ?_)
        case c1 => simp
        case c2 => omega
        case c3 => omega
        case c4 => simp; omega
        intro v' w' hown' hg' _
        have hb' : Below w3.heap.size w3 w' := below_append (hb.alloc hb.size _) (hown.alloc _) hg' (Nat.le_refl _) (by simp; omega)
        have hown2 : w'.ownsRow w3.heap.size 3 1 v' (acc ++ [y]).length (ints (acc ++ [y])) := by
          rw [ints_append]; simpa [ints] using hown'
        clear hown' hg'
        go_wp2_with fail
        go_roundw
        case rel => exact ⟨k + 1, acc ++ [y], by omega, by go_num, hown2, HA2, by simp; omega, hb'⟩
        case measure => simp [intOf]; omega
    · obtain rfl : k = n := by omega
      have hki : ¬ (k : Int) < (k : Int) := by omega
      have HE : Hid (acc = L) := by show acc = L; rw [← HLL.out, ← HZS.out, HACC.out, List.take_of_length_le (by rw [HN.out]; exact Nat.le_refl _)]
      go_wp2_with fail
      go_ret2
      refine ⟨_, rfl, OwnInts.of_made ?_, turn_trans HT.out (TurnIn.of_below hb) (by omega)⟩
      rw [← HE.out]
      exact own_base hown hw3

theorem helpersOf_any (g e q a : Int) (w : World) : Calls Tryd.prog 125 #[locV g e q, .int .i64 a] w (RetIntsOk 3 w (hlpR g e q a) (grpOk g e q a)) := by
  by_cases hok : grpOk g e q a = true
  · have h : locOk g e q = true := by unfold grpOk at hok; simp at hok; exact hok.1
    obtain ⟨⟨hg, he⟩, hq, -⟩ := locOk_b h
    obtain ⟨g, rfl⟩ := Int.eq_ofNat_of_zero_le (show 0 ≤ g by omega)
    obtain ⟨e, rfl⟩ := Int.eq_ofNat_of_zero_le (show 0 ≤ e by omega)
    obtain ⟨q, rfl⟩ := Int.eq_ofNat_of_zero_le (show 0 ≤ q by omega)
    have hr0 : 0 ≤ grpN (g * e) e g a := by rw [grpOk_yes h] at hok; simpa using hok
    have hr1 := grpN_lt (d := g * e) (e := e) (g := g) (by omega) rfl a
    obtain ⟨r, hr⟩ := Int.eq_ofNat_of_zero_le hr0
    rw [hlpR_yes hok, hok, hr]
    exact helpersOf_yes g e q r a w (by omega) (by omega) hok (by show grpR _ _ _ _ = _; rw [grpR_yes hok, hr]) (by omega)
  · have hok : grpOk g e q a = false := by simpa using hok
    rw [hlpR_no hok, hok]
    exact helpersOf_no g e q a w hok

end Go.Proofs.YtlkoafnlklhaeaaDoor

/- HelpersOf: the model's. -/
namespace G294
open Go Go.RowKit
theorem sel_same {d e g k : Nat} {a r : Int} (h : (k : Int) = a ∨ ¬ grpN d e g (k : Int) = r) : notA a (mem4 d e g (k + 1) r) = notA a (mem4 d e g k r) := by
  unfold notA mem4
  rw [List.range_succ, List.map_append, List.filter_append, List.filter_append]
  rcases h with h | h
  · by_cases h2 : grpN d e g (k : Int) = r <;> simp [h2, h]
  · simp [h]
theorem sel_more {d e g k : Nat} {a r : Int} (h1 : ¬ (k : Int) = a) (h2 : grpN d e g (k : Int) = r) : notA a (mem4 d e g (k + 1) r) = notA a (mem4 d e g k r) ++ [(k : Int)] := by
  unfold notA mem4
  rw [List.range_succ, List.map_append, List.filter_append, List.filter_append]
  simp [h1, h2]
theorem box3_turn {w0 w1 w2 : World} {B : Nat} {x y z : Value} (h : w1.cell? ⟨B, 0, none⟩ = some x ∧ w1.cell? ⟨B, 1, none⟩ = some y ∧ w1.cell? ⟨B, 2, none⟩ = some z ∧ TurnIn 0 0 w0 w1) (hB : B < w0.heap.size) (k : TurnIn 0 0 w1 w2) :
    w2.cell? ⟨B, 0, none⟩ = some x ∧ w2.cell? ⟨B, 1, none⟩ = some y ∧ w2.cell? ⟨B, 2, none⟩ = some z ∧ TurnIn 0 0 w0 w2 := by
  obtain ⟨h1, h2, h3, h4⟩ := h
  have hs := h4.size
  exact ⟨cell_keepT h1 (by omega) k (by omega), cell_keepT h2 (by omega) k (by omega), cell_keepT h3 (by omega) k (by omega), turn_trans h4 k (by omega)⟩
end G294
namespace Go.Proofs.YtlkoafnlklhaeaaDoor
open Go.RowKit Go.Maps G294

set_option maxRecDepth 100000 in
set_option maxHeartbeats 1000000 in
theorem l4Many_any (g e q d : Nat) (w : World) (HGE : Hid ((g : Int) * (e : Int) = (d : Int))) (hd : 1 ≤ d ∧ d ≤ 16) (hg : g ≤ 4) (hq : q ≤ 4) : Calls Tryd.prog 123 #[locV g e q] w (RetInt w ((d + g + q : Nat) : Int)) := by
  have a1 := turn_alloc w (.cells #[.int .i64 g, .int .i64 e, .int .i64 q] 73)
  have z1 := World.size_alloc w (.cells #[.int .i64 g, .int .i64 e, .int .i64 q] 73)
  have cg := alloc_tri0 w (.int .i64 g) (.int .i64 e) (.int .i64 q) 73
  have ce := alloc_tri1 w (.int .i64 g) (.int .i64 e) (.int .i64 q) 73
  have cq := alloc_tri2 w (.int .i64 g) (.int .i64 e) (.int .i64 q) 73
  have hs1 : IntKind.i64.wrap ((d : Int) + (g : Int)) = (d : Int) + (g : Int) := IntWalk.i64_in _ (by omega)
  have hs2 : IntKind.i64.wrap ((d : Int) + (g : Int) + (q : Int)) = (d : Int) + (g : Int) + (q : Int) := IntWalk.i64_in _ (by omega)
  have HSUM : Hid (((d + g + q : Nat) : Int) = (d : Int) + (g : Int) + (q : Int)) := by show ((d + g + q : Nat) : Int) = _; omega
  rw [HSUM.out]
  have hsz : w.heap.size < (w.alloc (.cells #[.int .i64 g, .int .i64 e, .int .i64 q] 73)).heap.size := by omega
  go_enter Tryd.func123, Tryd.ntmps123
  go_wp2_with fail
  generalize (w.alloc (.cells #[.int .i64 g, .int .i64 e, .int .i64 q] 73)) = w1 at *
  have k0 : TurnIn 0 0 w1 w1.drew := TurnIn.of_below (Below.refl _ _).drew
  have hS0 : w1.drew.cell? ⟨w.heap.size, 0, none⟩ = some (.int .i64 g) ∧ w1.drew.cell? ⟨w.heap.size, 1, none⟩ = some (.int .i64 e) ∧ w1.drew.cell? ⟨w.heap.size, 2, none⟩ = some (.int .i64 q) ∧ TurnIn 0 0 w1 w1.drew := ⟨cg, ce, cq, k0⟩
  go_region_held3 (fun w' => w'.cell? ⟨w.heap.size, 0, none⟩ = some (.int .i64 g) ∧ w'.cell? ⟨w.heap.size, 1, none⟩ = some (.int .i64 e) ∧ w'.cell? ⟨w.heap.size, 2, none⟩ = some (.int .i64 q) ∧ TurnIn 0 0 w1 w')
    (first | exact hS0 | exact hS1)
    ((go_at_call 113; refine (l4Data_any (g : Int) (e : Int) (q : Int) _ (by rw [HGE.out]; omega)).mono ?_; rintro e' w2 ⟨rfl, k2⟩; rw [HGE.out]; have hS1 := box3_turn (by assumption) hsz k2))
  all_goals (go_wp2_with fail; go_ret; exact ⟨rfl, turn_trans a1 hS1.2.2.2 (by omega)⟩)

end Go.Proofs.YtlkoafnlklhaeaaDoor

/- HelpersOf: the model's loop. -/
namespace Go.Proofs.YtlkoafnlklhaeaaDoor
open Go.RowKit Go.Maps G294

set_option maxRecDepth 100000 in
set_option maxHeartbeats 1000000 in
theorem sHelpersOf_bad (g e q a : Int) (w : World) (HN : Hid (locOk g e q = false)) : Calls Tryd.prog 121 #[locV g e q, .int .i64 a] w (RetIntsOk 3 w [] false) := by
  have a1 := turn_alloc w (.cells #[.int .i64 g, .int .i64 e, .int .i64 q] 73)
  have z1 := World.size_alloc w (.cells #[.int .i64 g, .int .i64 e, .int .i64 q] 73)
  go_enter Tryd.func121, Tryd.ntmps121
  go_wp2_with fail
  refine (sGoodLocal_any g e q _).mono ?_
  rintro e' w2 ⟨rfl, k2⟩
  rw [HN.out]
  go_wp2_with fail
  go_ret2
  exact ⟨_, rfl, OwnInts.of_made (World.ownsRow_nil _ _ _ _), turn_trans a1 k2 (by omega)⟩

set_option maxRecDepth 100000 in
set_option maxHeartbeats 1000000 in
theorem sHelpersOf_neg (g e q : Nat) (a r : Int) (w : World) (hg : 1 ≤ g ∧ g ≤ 4) (he : 1 ≤ e ∧ e ≤ 4) (HL : Hid (locOk g e q = true)) (HR : Hid (grpN (g * e) e g a = r)) (hr : r < 0) : Calls Tryd.prog 121 #[locV g e q, .int .i64 a] w (RetIntsOk 3 w [] false) := by
  have a1 := turn_alloc w (.cells #[.int .i64 g, .int .i64 e, .int .i64 q] 73)
  have z1 := World.size_alloc w (.cells #[.int .i64 g, .int .i64 e, .int .i64 q] 73)
  have cg := alloc_tri0 w (.int .i64 g) (.int .i64 e) (.int .i64 q) 73
  have ce := alloc_tri1 w (.int .i64 g) (.int .i64 e) (.int .i64 q) 73
  have cq := alloc_tri2 w (.int .i64 g) (.int .i64 e) (.int .i64 q) 73
  have hrd : decide (r < 0) = true := by simpa using hr
  go_enter Tryd.func121, Tryd.ntmps121
  go_wp2_with fail
  refine (sGoodLocal_any (g : Int) (e : Int) (q : Int) _).mono ?_
  rintro e' w2 ⟨rfl, k2⟩
  rw [HL.out]
  have s2 := k2.size
  have dg := cell_keepT cg (by omega) k2 (by omega)
  have de := cell_keepT ce (by omega) k2 (by omega)
  have dq := cell_keepT cq (by omega) k2 (by omega)
  go_wp2_with fail
  refine (l4Group_any g e q a _ hg he).mono ?_
  rintro e' w3 ⟨rfl, k3⟩
  rw [HR.out]
  go_wp2_with fail
  go_ret2
  exact ⟨_, rfl, OwnInts.of_made (World.ownsRow_nil _ _ _ _), turn_trans (turn_trans a1 k2 (by omega)) k3 (by omega)⟩

set_option maxRecDepth 100000 in
set_option maxHeartbeats 4000000 in
theorem sHelpersOf_yes (g e q d : Nat) (a r : Int) (w : World) (hg : 1 ≤ g ∧ g ≤ 4) (he : 1 ≤ e ∧ e ≤ 4) (hq : q ≤ 4) (hd : 1 ≤ d ∧ d ≤ 16) (HGE : Hid ((g : Int) * (e : Int) = (d : Int))) (HD : Hid (g * e = d)) (HL : Hid (locOk g e q = true)) (HR : Hid (grpN d e g a = r)) (hr : ¬ r < 0) : Calls Tryd.prog 121 #[locV g e q, .int .i64 a] w (RetIntsOk 3 w (notA a (mem4 d e g (d + g + q) r)) true) := by
  have a1 := turn_alloc w (.cells #[.int .i64 g, .int .i64 e, .int .i64 q] 73)
  have z1 := World.size_alloc w (.cells #[.int .i64 g, .int .i64 e, .int .i64 q] 73)
  have cg := alloc_tri0 w (.int .i64 g) (.int .i64 e) (.int .i64 q) 73
  have ce := alloc_tri1 w (.int .i64 g) (.int .i64 e) (.int .i64 q) 73
  have cq := alloc_tri2 w (.int .i64 g) (.int .i64 e) (.int .i64 q) 73
  have hrd : decide (r < 0) = false := by simpa using hr
  have HM : Hid (∀ w, Calls Tryd.prog 123 #[locV g e q] w (RetInt w ((d + g + q : Nat) : Int))) := fun w => l4Many_any g e q d w HGE hd hg.2 hq
  have HG : Hid (∀ (x : Int) w, Calls Tryd.prog 171 #[.agg #[.int .i64 g, .int .i64 e, .int .i64 q], .int .i64 x] w (RetInt w (grpN d e g x))) := fun x w => by rw [← HD.out]; exact l4Group_any g e q x w hg he
  obtain ⟨n, hn⟩ : ∃ n, d + g + q = n := ⟨_, rfl⟩
  rw [hn] at HM ⊢
  have hn24 : n ≤ 24 := by omega
  clear hn
  go_enter Tryd.func121, Tryd.ntmps121
  go_wp2_with fail
  refine (sGoodLocal_any (g : Int) (e : Int) (q : Int) _).mono ?_
  rintro e' w2 ⟨rfl, k2⟩
  rw [HL.out]
  have s2 := k2.size
  have dg := cell_keepT cg (by omega) k2 (by omega)
  have de := cell_keepT ce (by omega) k2 (by omega)
  have dq := cell_keepT cq (by omega) k2 (by omega)
  clear cg ce cq
  go_wp2_with fail
  refine (HG.out a _).mono ?_
  rintro e' w3 ⟨rfl, k3⟩
  rw [HR.out]
  have s3 := k3.size
  have eg := cell_keepT dg (by omega) k3 (by omega)
  have ee := cell_keepT de (by omega) k3 (by omega)
  have eq' := cell_keepT dq (by omega) k3 (by omega)
  clear dg de dq
  have HT : Hid (TurnIn 0 0 w w3) := turn_trans (turn_trans a1 k2 (by omega)) k3 (by omega)
  have hw3 : w.heap.size < w3.heap.size := by omega
  clear a1 k2 k3 z1 s2 s3
  go_wp2_with fail
  go_loopw [6, 7] (fun o i wr => ∃ (k : Nat) (acc : List Int), k ≤ n ∧ i = .int .i64 k ∧ wr.ownsRow w3.heap.size 3 1 o acc.length (ints acc) ∧ Hid (acc = notA a (mem4 d e g k r)) ∧ acc.length ≤ k ∧ Below w3.heap.size w3 wr)
    (fun _ i _ => n - (intOf i).toNat)
  case atStart => exact ⟨0, [], Nat.zero_le _, rfl, World.ownsRow_nil _ _ _ _, by show [] = notA a (mem4 d e g 0 r); simp [notA, mem4], Nat.le_refl _, Below.refl _ _⟩
  case round =>
    obtain ⟨k, acc, hk, rfl, hown, HACC, hak, hb⟩ := hrel
    have hbs := hb.size
    have c0 := (hb.cell (p := ⟨w.heap.size, 0, none⟩) hw3).trans eg
    have c1 := (hb.cell (p := ⟨w.heap.size, 1, none⟩) hw3).trans ee
    have c2 := (hb.cell (p := ⟨w.heap.size, 2, none⟩) hw3).trans eq'
    go_wp2_with fail
    refine (HM.out _).mono ?_
    rintro e' w4 ⟨rfl, k4⟩
    have s4 := k4.size
    have hb4 : Below w3.heap.size w3 w4 := k4.base hb (by omega) (by omega)
    have d0 := cell_keepT c0 (by omega) k4 (by omega)
    have d1 := cell_keepT c1 (by omega) k4 (by omega)
    have d2 := cell_keepT c2 (by omega) k4 (by omega)
    have hown4 := own_below hown k4.to_below
    have HOWN := Lib.hid hown4
    have HB4 := Lib.hid hb4
    have hw4 : w.heap.size < w4.heap.size := by omega
    have hw34 : w3.heap.size ≤ w4.heap.size := by omega
    clear c0 c1 c2 hown hb hown4 hb4 k4 hbs s4
    by_cases hlt : k < n
    · have hki : (k : Int) < (n : Int) := by omega
      by_cases hka : (k : Int) = a
      · have hkb : ((k : Int) != a) = false := by simpa using hka
        have HA2 : Hid (acc = notA a (mem4 d e g (k + 1) r)) := by show acc = _; rw [sel_same (.inl hka), HACC.out]
        have HKA := Lib.hid hka
        clear hka
        go_wp2_with fail
        go_quiet (fail)
        go_wp2_with fail
        go_roundw
        case rel => exact ⟨k + 1, acc, by omega, by go_num, own_below HOWN.out (below_drewN (Below.refl _ _) _), HA2, by omega, below_drewN HB4.out _⟩
        case measure => simp [intOf]; omega
      · have hkb : ((k : Int) != a) = true := by simpa using hka
        have HKA := Lib.hid hka
        clear hka
        go_wp2_with fail
        have k0 : TurnIn 0 0 w4 w4.drew := TurnIn.of_below (Below.refl _ _).drew
        have hS0 : w4.drew.cell? ⟨w.heap.size, 0, none⟩ = some (.int .i64 g) ∧ w4.drew.cell? ⟨w.heap.size, 1, none⟩ = some (.int .i64 e) ∧ w4.drew.cell? ⟨w.heap.size, 2, none⟩ = some (.int .i64 q) ∧ TurnIn 0 0 w4 w4.drew := ⟨d0, d1, d2, k0⟩
        obtain ⟨s, hs⟩ : ∃ s, grpN d e g (k : Int) = s := ⟨_, rfl⟩
        have HS := Lib.hid hs
        clear hs
        go_cut [34] from 23 to 33 (fun s34 wx => s34 = .bool (s == r) ∧ TurnIn 0 0 w4 wx)
        case first =>
          go_region_held3 (fun w' => w'.cell? ⟨w.heap.size, 0, none⟩ = some (.int .i64 g) ∧ w'.cell? ⟨w.heap.size, 1, none⟩ = some (.int .i64 e) ∧ w'.cell? ⟨w.heap.size, 2, none⟩ = some (.int .i64 q) ∧ TurnIn 0 0 w4 w')
            (first | exact hS0 | exact hS1)
            ((go_at_call 171; (first | ((with_reducible refine (HG.out a _).mono ?_); rintro e' w5 ⟨rfl, k5⟩; rw [HR.out]) | ((with_reducible refine (HG.out (k : Int) _).mono ?_); rintro e' w5 ⟨rfl, k5⟩; rw [HS.out])); have hS1 := box3_turn (by assumption) hw4 k5))
          all_goals (go_wp2_with fail; go_meet; exact ⟨by first | rfl | simp, hS1.2.2.2⟩)
        case rest =>
          obtain ⟨rfl, k5⟩ := hcut
          have s5 := k5.size
          have hown5 := own_below HOWN.out k5.to_below
          have hb5 : Below w3.heap.size w3 wc := k5.base HB4.out (by omega) (by omega)
          by_cases hsr : s = r
          · have hsb : (s == r) = true := by simpa using hsr
            have HA2 : Hid (acc ++ [(k : Int)] = notA a (mem4 d e g (k + 1) r)) := by show acc ++ [(k : Int)] = _; rw [sel_more HKA.out (HS.out.trans hsr), HACC.out]
            clear hsr k5 d0 d1 d2
            go_wp2_with (at_builtin; refine wpList_append1 rfl _ _ _ rfl w3.heap.size 3 _ _ Tryd.underlying97 infoIntG rfl _ acc.length _ rfl (hown5.alloc _) wc.heap.size (.int .i64 k) rfl ?c1 rfl ?c2 ?c3 ?c4 ?_)
            case c1 => simp
            case c2 => omega
            case c3 => omega
            case c4 => simp; omega
            intro v' w' hown' hg' _
            have hb' : Below w3.heap.size w3 w' := below_append (hb5.alloc hb5.size _) (hown5.alloc _) hg' (Nat.le_refl _) (by simp; omega)
            have hown2 : w'.ownsRow w3.heap.size 3 1 v' (acc ++ [(k : Int)]).length (ints (acc ++ [(k : Int)])) := by
              rw [ints_append]; simpa [ints] using hown'
            clear hown' hg'
            go_wp2_with fail
            go_roundw
            case rel => exact ⟨k + 1, acc ++ [(k : Int)], by omega, by go_num, hown2, HA2, by simp; omega, hb'⟩
            case measure => simp [intOf]; omega
          · have hsb : (s == r) = false := by simpa using hsr
            have HA2 : Hid (acc = notA a (mem4 d e g (k + 1) r)) := by show acc = _; rw [sel_same (.inr (by rw [HS.out]; exact hsr)), HACC.out]
            clear hsr k5 d0 d1 d2
            go_wp2_with fail
            go_roundw
            case rel => exact ⟨k + 1, acc, by omega, by go_num, hown5, HA2, by omega, hb5⟩
            case measure => simp [intOf]; omega
    · obtain rfl : k = n := by omega
      have hki : ¬ (k : Int) < (k : Int) := by omega
      go_wp2_with fail
      go_ret2
      refine ⟨_, rfl, OwnInts.of_made ?_, turn_trans HT.out (TurnIn.of_below HB4.out) (by omega)⟩
      rw [← HACC.out]
      exact own_base HOWN.out (by omega)

end Go.Proofs.YtlkoafnlklhaeaaDoor

/- HelpersOf: the model's, everywhere. -/
namespace G294
theorem grp1_len (e d : Nat) (j : Int) : (grp1 e d j).length ≤ d := by
  unfold grp1; rw [List.length_map]; exact Nat.le_trans (List.length_filter_le _ _) (by simp)
theorem grp2_len (d e g : Nat) (j : Int) : (grp2 d e g j).length ≤ d + 1 := by
  unfold grp2
  have := grp1_len e d j
  rw [List.length_append]
  split <;> simp <;> omega
theorem hlpR_len (g e q a : Int) : (hlpR g e q a).length ≤ 1000 := by
  unfold hlpR
  split
  · rename_i hok
    have h : locOk g e q = true := by unfold grpOk at hok; simp at hok; exact hok.1
    have hb := (locOk_b h).2.2.2
    refine Nat.le_trans (notA_le _ _) (Nat.le_trans (grp2_len _ _ _ _) ?_)
    omega
  · simp
end G294
namespace Go.Proofs.YtlkoafnlklhaeaaDoor
open Go.RowKit Go.Maps G294

theorem sHelpersOf_any (g e q a : Int) (w : World) : Calls Tryd.prog 121 #[locV g e q, .int .i64 a] w (RetIntsOk 3 w (hlpR g e q a) (grpOk g e q a)) := by
  by_cases h : locOk g e q = true
  · obtain ⟨⟨hg, he⟩, hq, -⟩ := locOk_b h
    obtain ⟨g, rfl⟩ := Int.eq_ofNat_of_zero_le (show 0 ≤ g by omega)
    obtain ⟨e, rfl⟩ := Int.eq_ofNat_of_zero_le (show 0 ≤ e by omega)
    obtain ⟨q, rfl⟩ := Int.eq_ofNat_of_zero_le (show 0 ≤ q by omega)
    have hbd := mul_bd (a := (g : Int)) (b := (e : Int)) (by omega) (by omega)
    rw [← Int.natCast_mul] at hbd
    by_cases hr : grpN (g * e) e g a < 0
    · have hok : grpOk g e q a = false := by rw [grpOk_yes h]; simp; omega
      rw [hlpR_no hok, hok]
      exact sHelpersOf_neg g e q a _ w (by omega) (by omega) h rfl hr
    · have hok : grpOk g e q a = true := by rw [grpOk_yes h]; simp; omega
      have hr1 := grpN_lt (d := g * e) (e := e) (g := g) (by omega) rfl a
      obtain ⟨r, hr2⟩ := Int.eq_ofNat_of_zero_le (show 0 ≤ grpN (g * e) e g a by omega)
      have hm := mem4_grp (g := g) (e := e) (q := q) (r := r) (by omega) (by omega) (by omega) (by omega)
      rw [hlpR_yes hok, hok, hr2, ← hm]
      exact sHelpersOf_yes g e q (g * e) a (r : Int) w (by omega) (by omega) (by omega) (by omega) (Int.natCast_mul g e).symm rfl h hr2 (by omega)
  · have h : locOk g e q = false := by simpa using h
    have hok : grpOk g e q a = false := by unfold grpOk; rw [h]; rfl
    rw [hlpR_no hok, hok]
    exact sHelpersOf_bad g e q a w h

end Go.Proofs.YtlkoafnlklhaeaaDoor

/- The helpers on []byte, by intervals. -/
namespace Go.Proofs.YtlkoafnlklhaeaaDoor
open Go.RowKit G294

theorem toByteS_own (v : Value) (l : List UInt8) (w : World) (hv : Seen w v (bys l)) (hn : l.length ≤ 1048576) : Calls Tryd.prog 25 #[v] w (RetBytes 5 w l) :=
  (toByteS_any v l w hv hn).mono fun e w' ⟨v', he, ho, hb⟩ => ⟨v', he, OwnBytes.of_made (by simpa using ho), TurnIn.of_below hb⟩

theorem eqByteS_own (v u : Value) (l m : List UInt8) (w : World) (hv : Seen w v (bys l)) (hu : Seen w u (bys m)) : Calls Tryd.prog 15 #[v, u] w (RetBool w (l == m)) :=
  (eqByteS_any v u l m w hv hu).mono fun e w' ⟨he, hb⟩ => ⟨he, TurnIn.of_below hb⟩

theorem eqByteS_same (v u : Value) (l : List UInt8) (w : World) (hv : Seen w v (bys l)) (hu : Seen w u (bys l)) : Calls Tryd.prog 15 #[v, u] w (RetBool w true) := by
  have := eqByteS_own v u l l w hv hu
  rwa [beq_self_eq_true] at this

theorem markByteS_own (v : Value) (l : List UInt8) (k lo hi : Nat) (w : World) (hv : OwnBytes 5 w lo hi v l) (hk : k + l.length ≤ 1000000000000) :
    Calls Tryd.prog 16 #[v, .int .i64 k] w (RetMarkB 5 w lo hi v k l.length) :=
  (markByteS_any v l k lo w hv.1 hk).mono fun e w' ⟨he, ho, hg⟩ => ⟨he, ⟨by simpa using ho, Nat.le_trans hv.2.1 hg.size, hv.2.2⟩, TurnIn.of_grown hg fun g h => ⟨(hv.1.lt g h).1, hv.2.2 g h⟩⟩

theorem heldByteS_own (v : Value) (k n : Nat) (w : World) (hv : Seen w v (bys (marks k n))) (hk : k + n ≤ 1000000000000) : Calls Tryd.prog 17 #[v, .int .i64 k] w (RetInt w ((k + n : Nat) : Int)) :=
  (heldByteS_any v k n w hv hk).mono fun e w' ⟨he, hb⟩ => ⟨he, TurnIn.of_below hb⟩

theorem retBytesOk_of {w : World} {l : List UInt8} {ok : Bool} {e : Ending} {w' : World} (h : MadeOk w 5 (bys l) ok e w') : RetBytesOk 5 w l ok e w' := by
  obtain ⟨v', he, ho, hb⟩ := h
  exact ⟨v', he, OwnBytes.of_made (by simpa using ho), TurnIn.of_below hb⟩

end Go.Proofs.YtlkoafnlklhaeaaDoor

/- parityRow, the program's: the row of a group's parity. -/
namespace G294
open Go Go.RowKit
/-- ones where a list has the place's number -/
def parF (l : List Int) (j : Nat) : UInt8 := if (j : Int) ∈ l then 1 else 0
theorem parF_next (l : List Int) (k : Nat) (hk : k < l.length) (c : Nat) : mkRow c (parF (l.take (k + 1))) = mkRow c (fun j => if (j : Int) = l[k] then 1 else parF (l.take k) j) := by
  refine mkRow_congr fun j hj => ?_
  have hmem : (j : Int) ∈ l.take (k + 1) ↔ (j : Int) ∈ l.take k ∨ (j : Int) = l[k] := by rw [List.take_succ_eq_append_getElem hk, List.mem_append, List.mem_singleton]
  unfold parF
  by_cases h : (j : Int) = l[k]
  · rw [if_pos h, if_pos (hmem.2 (.inr h))]
  · rw [if_neg h]
    by_cases h2 : (j : Int) ∈ l.take k
    · rw [if_pos h2, if_pos (hmem.2 (.inl h2))]
    · rw [if_neg h2, if_neg (fun h3 => (hmem.1 h3).elim h2 h)]
theorem bys_set1 (l : List UInt8) (k : Nat) (x : UInt8) : (bys l).set k (.int .u8 (x.toNat : Int)) = bys (l.set k x) := by simp [bys, List.map_set]
end G294
namespace Go.Proofs.YtlkoafnlklhaeaaDoor
open Go.RowKit G294

set_option maxRecDepth 100000 in
set_option maxHeartbeats 1000000 in
theorem parityRow_own (v : Value) (l : List Int) (c : Nat) (w : World) (hv : Seen w v (ints l)) (hpos : ∀ x ∈ l, 0 ≤ x) (hc : 1 ≤ c ∧ c ≤ 1000) : Calls Tryd.prog 108 #[v, .int .i64 c] w (RetBytes 5 w (mkRow c (parF l))) := by
  obtain ⟨i0, hi0, hz0, hz1, hz2⟩ := info_parts infoByte
  obtain ⟨A, cp, rfl, hlc, hcm, hx⟩ := hv
  rw [ints_length] at hlc hx
  simp only [ints_length]
  unfold maxLen at hcm
  generalize hnn : l.length = n at *
  have HN := Lib.hid hnn
  have HX := Lib.hid hx
  have HP := Lib.hid hpos
  clear hnn hx hpos
  obtain ⟨hc1, hc2⟩ := hc
  generalize hrow : mkRow c (parF l) = row
  have HROW := Lib.hid hrow
  clear hrow
  go_enter Tryd.func108, Tryd.ntmps108
  go_wp2_with (at_make; refine wpList_make_full _ rfl _ _ _ rfl w.heap.size _ i0 _ 1 Tryd.underlying24 hi0 hz0 hz1 _ _ _ _ c rfl rfl rfl rfl ?b2 ?b3 ?b4 ?_)
  case b2 => rw [hz2]; omega
  case b3 => unfold maxLen; omega
  case b4 => exact Nat.le_refl _
  intro w1 hown1 hg1
  have hb1 : Below w.heap.size w w1 := below_of_grown hg1 (Nat.le_refl _) (by simp)
  rw [toList_madeCells_one] at hown1
  have HO1 : Hid (w1.ownsRow w.heap.size 5 1 (.slice (some ⟨w.heap.size, 0, none⟩) c c) c (bys (mkRow c (parF (l.take 0))))) := by
    have e1 : bys (mkRow c (parF (l.take 0))) = List.replicate c (.int .u8 0) := by
      refine List.ext_getElem (by simp [bys]) fun i h1 h2 => ?_
      simp [bys, mkRow, parF]
    show w1.ownsRow _ _ _ _ _ _
    rw [e1]; exact hown1
  clear hg1 hown1
  go_wp2_with fail
  go_loopw [12] (fun i wr => ∃ k : Nat, k ≤ n ∧ i = .int .i64 k ∧ wr.ownsRow w.heap.size 5 1 (.slice (some ⟨w.heap.size, 0, none⟩) c c) c (bys (mkRow c (parF (l.take k)))) ∧ Below w.heap.size w wr)
    (fun i _ => n - (intOf i).toNat)
  case atStart => exact ⟨0, Nat.zero_le _, rfl, HO1.out, hb1⟩
  case round =>
    obtain ⟨k, hk, rfl, hown, hb⟩ := hrel
    clear hb1
    by_cases hlt : k < n
    · have hki : (k : Int) < (n : Int) := by omega
      have hkl : k < l.length := by rw [HN.out]; exact hlt
      obtain ⟨b, off, rfl, hbl, hcell⟩ := HX.out (by omega)
      have hcx := (hb.cell (p := ⟨b, off + k, none⟩) hbl).trans (hcell k _ (ints_get l k hkl))
      have HNX := Lib.hid (parF_next l k hkl c)
      have hp0 : 0 ≤ l[k] := HP.out _ (List.getElem_mem hkl)
      obtain ⟨m, hm⟩ := Int.eq_ofNat_of_zero_le hp0
      rw [hm] at hcx HNX
      clear hcell hm hp0
      by_cases hmc : m < c
      · have hmi : (m : Int) < (c : Int) := by omega
        have hmd : decide ((m : Int) < (c : Int)) = true := by simpa using hmi
        obtain ⟨old, hold⟩ : ∃ y, (bys (mkRow c (parF (l.take k))))[m]? = some y := ⟨_, List.getElem?_eq_getElem (by simp [bys]; exact hmc)⟩
        have hco : wr.cell? ⟨w.heap.size, m, none⟩ = some old := by rw [hown.cellAt m (by omega)]; exact hold
        have hfr := hown.frozenAt m
        have hst := (hown.stored m (.int .u8 ((1 : UInt8).toNat : Int))).1
        rw [bys_set1, mkRow_set] at hst
        have HST : Hid ((wr.setCell ⟨w.heap.size, m, none⟩ (.int .u8 1)).ownsRow w.heap.size 5 1 (.slice (some ⟨w.heap.size, 0, none⟩) c c) c (bys (mkRow c (parF (l.take (k + 1)))))) := by
          show World.ownsRow _ _ _ _ _ _ _
          rw [HNX.out]
          have e2 : mkRow c (fun j => if (j : Int) = (m : Int) then 1 else parF (l.take k) j) = mkRow c (fun j => if j = m then 1 else parF (l.take k) j) := mkRow_congr fun j _ => by
            by_cases h : j = m
            · rw [if_pos (by omega), if_pos h]
            · rw [if_neg (by omega), if_neg h]
          rw [e2]; exact hst
        clear hst hold
        go_wp2_with fail
        go_roundw
        case rel => exact ⟨k + 1, by omega, by go_num, HST.out, hb.setCell (Nat.le_refl _) _⟩
        case measure => simp [intOf]; omega
      · have hmi : ¬ (m : Int) < (c : Int) := by omega
        have hmd : decide ((m : Int) < (c : Int)) = false := by simpa using hmi
        have HST : Hid (wr.ownsRow w.heap.size 5 1 (.slice (some ⟨w.heap.size, 0, none⟩) c c) c (bys (mkRow c (parF (l.take (k + 1)))))) := by
          show World.ownsRow _ _ _ _ _ _ _
          rw [HNX.out]
          have e2 : mkRow c (fun j => if (j : Int) = (m : Int) then 1 else parF (l.take k) j) = mkRow c (parF (l.take k)) := mkRow_congr fun j hj => by
            rw [if_neg (by omega)]
          rw [e2]; exact hown
        go_wp2_with fail
        go_roundw
        case rel => exact ⟨k + 1, by omega, by go_num, HST.out, hb⟩
        case measure => simp [intOf]; omega
    · obtain rfl : k = n := by omega
      have hki : ¬ (k : Int) < (k : Int) := by omega
      go_wp2_with fail
      go_ret
      refine ⟨_, rfl, OwnBytes.of_made ?_, TurnIn.of_below hb⟩
      rw [List.take_of_length_le (by rw [HN.out]; exact Nat.le_refl _), HROW.out] at hown
      have e3 : row.length = c := by rw [← HROW.out]; simp
      rw [e3]; exact hown

end Go.Proofs.YtlkoafnlklhaeaaDoor

/- The matrix of a local code: the identity, a row of ones for each group, Cauchy's rows. Both sides' rows of a group are the same. -/
namespace G294
/-- the model's row of the group p: ones from p * e on, e of them -/
def onesF (p e : Nat) (j : Nat) : UInt8 := if p * e ≤ j ∧ j < p * e + e then 1 else 0
theorem parF_ones {d e g p : Nat} (he : 1 ≤ e) (hp : p < g) (hd : d = g * e) : mkRow d (parF (grp2 d e g (p : Int))) = mkRow d (onesF p e) := by
  refine mkRow_congr fun j hj => ?_
  have hm := mem_grp he hd (j : Int) p hp
  have hn : grpN d e g (j : Int) = ((j / e : Nat) : Int) := by unfold grpN; rw [if_pos (by omega)]; simp
  rw [hn] at hm
  have hq : (((j / e : Nat) : Int) = (p : Int)) ↔ (p * e ≤ j ∧ j < p * e + e) := by
    constructor
    · intro h
      have h' : j / e = p := by omega
      have h1 := Nat.div_mul_le_self j e
      have h2 := Nat.lt_div_mul_add (a := j) (b := e) (by omega)
      rw [h'] at h1 h2
      exact ⟨h1, h2⟩
    · rintro ⟨h1, h2⟩
      have : j / e = p := Nat.div_eq_of_lt_le h1 (by rw [Nat.succ_mul]; exact h2)
      rw [this]
  unfold parF onesF
  by_cases h : p * e ≤ j ∧ j < p * e + e
  · rw [if_pos h, if_pos (hm.2 (hq.2 h))]
  · rw [if_neg h, if_neg (fun h2 => h (hq.1 (hm.1 h2)))]
/-- the members of a group are no negative numbers -/
theorem grp_pos {d e g : Nat} (p : Nat) : ∀ x ∈ grp2 d e g (p : Int), 0 ≤ x := by
  intro x hx
  unfold grp2 at hx
  rcases List.mem_append.1 hx with h | h
  · unfold grp1 at h
    obtain ⟨t, _, rfl⟩ := List.mem_map.1 h
    omega
  · split at h
    · rw [List.mem_singleton] at h; omega
    · cases h
/-- the matrix of a local code -/
def locF (d e g : Nat) : Ents := fun i j => if i < d then idF i j else if i < d + g then onesF (i - d) e j else cauF d (i - d - g) j
def locM (g e q : Nat) : Mat := mkM (g * e + g + q) (g * e) (locF (g * e) e g)
/-- .. after k of its groups -/
def locP (d e g k : Nat) : Mat := mkM (d + k) d (locF d e g)
theorem locP_zero (d e g : Nat) : mkM d d idF = locP d e g 0 := by
  unfold locP mkM
  refine List.map_congr_left fun i hi => ?_
  rw [List.mem_range] at hi
  exact mkRow_congr fun j _ => by simp [locF, hi]
theorem locP_succ (d e g k : Nat) (hk : k < g) : locP d e g (k + 1) = locP d e g k ++ [mkRow d (onesF k e)] := by
  unfold locP mkM
  rw [← Nat.add_assoc, List.range_succ, List.map_append]
  congr 1
  simp only [List.map_cons, List.map_nil, List.cons.injEq, and_true]
  exact mkRow_congr fun j _ => by
    show (if d + k < d then _ else if d + k < d + g then _ else _) = _
    rw [if_neg (by omega), if_pos (by omega), Nat.add_sub_cancel_left]
theorem locM_eq (g e q : Nat) : locP (g * e) e g g ++ mkM q (g * e) (cauF (g * e)) = locM g e q := by
  unfold locP locM
  generalize g * e = d
  apply List.ext_getElem
  · simp
  · intro i h1 h2
    rcases Nat.lt_or_ge i (d + g) with h | h
    · rw [List.getElem_append_left (by simpa using h)]
      simp only [mkM, List.getElem_map, List.getElem_range]
    · rw [List.getElem_append_right (by simpa using h)]
      simp only [mkM, List.getElem_map, List.getElem_range, List.length_map, List.length_range]
      exact mkRow_congr fun j _ => by
        show _ = (if i < d then _ else if i < d + g then _ else _)
        rw [if_neg (by omega), if_neg (by omega), show i - d - g = i - (d + g) by omega]
def locR (g e q : Int) : Mat := if locOk g e q = true then locM g.toNat e.toNat q.toNat else []
theorem locR_yes {g e q : Nat} (h : locOk g e q = true) : locR g e q = locM g e q := by unfold locR; rw [if_pos h]; simp
theorem locR_no {g e q : Int} (h : locOk g e q = false) : locR g e q = [] := by unfold locR; rw [if_neg (by rw [h]; simp)]
theorem locR_siz (g e q : Int) : sizM (locR g e q) ≤ 256 := by
  unfold locR; split
  · rename_i h
    have hb := locOk_b h
    obtain ⟨g, rfl⟩ := Int.eq_ofNat_of_zero_le (show 0 ≤ g by omega)
    obtain ⟨e, rfl⟩ := Int.eq_ofNat_of_zero_le (show 0 ≤ e by omega)
    obtain ⟨q, rfl⟩ := Int.eq_ofNat_of_zero_le (show 0 ≤ q by omega)
    rw [← Int.natCast_mul] at hb
    simp only [Int.toNat_natCast]
    exact sizM_side _ (by omega) (by omega)
  · simp [sizM]
end G294
