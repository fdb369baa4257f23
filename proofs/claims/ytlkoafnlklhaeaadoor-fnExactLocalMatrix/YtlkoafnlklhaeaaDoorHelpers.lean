/- HelpersOf: its mathematics, and the program's. -/
import Derived.Test.YtlkoafnlklhaeaaDoorGroupOE
set_option linter.unusedSimpArgs false
set_option linter.unusedVariables false
namespace G294
/-- all of a list but one number -/
def notA (a : Int) (l : List Int) : List Int := l.filter fun x => !(x == a)
theorem notA_next (a : Int) (l : List Int) (k : Nat) (hk : k < l.length) : notA a (l.take (k + 1)) = notA a (l.take k) ++ (if (l[k] == a) = true then [] else [l[k]]) := by
  unfold notA
  rw [List.take_succ_eq_append_getElem hk, List.filter_append]
  by_cases h : l[k] = a <;> simp [h]
theorem notA_le (a : Int) (l : List Int) : (notA a l).length ≤ l.length := List.length_filter_le _ _
def hlpR (g e q a : Int) : List Int := if grpOk g e q a = true then notA a (grp2 (g * e).toNat e.toNat g.toNat (grpR g e q a)) else []
theorem hlpR_no {g e q a : Int} (h : grpOk g e q a = false) : hlpR g e q a = [] := if_neg (by rw [h]; simp)
theorem hlpR_yes {g e q : Nat} {a : Int} (h : grpOk g e q a = true) : hlpR g e q a = notA a (grp2 (g * e) e g (grpN (g * e) e g a)) := by
  unfold hlpR; rw [if_pos h, toNat_mul2, Int.toNat_natCast, Int.toNat_natCast, grpR_yes h]
/-- the members of a group, as the model finds them -/
def mem4 (d e g n : Nat) (r : Int) : List Int := ((List.range n).map fun i : Nat => (i : Int)).filter fun i => decide (grpN d e g i = r)
theorem mem4_all : ((List.range 5).all fun g => (List.range 5).all fun e => (List.range 5).all fun q => (List.range 4).all fun r => decide (e = 0) || decide (g ≤ r) || decide (mem4 (g * e) e g (g * e + g + q) (r : Int) = grp2 (g * e) e g (r : Int))) = true := by decide +kernel
theorem mem4_grp {g e q r : Nat} (hg : g ≤ 4) (he : 1 ≤ e ∧ e ≤ 4) (hq : q ≤ 4) (hr : r < g) : mem4 (g * e) e g (g * e + g + q) (r : Int) = grp2 (g * e) e g (r : Int) := by
  have h := mem4_all
  simp only [List.all_eq_true, List.mem_range] at h
  have h1 := h g (by omega) e (by omega) q (by omega) r (by omega)
  simp only [Bool.or_eq_true, decide_eq_true_eq] at h1
  rcases h1 with (h1 | h1) | h1
  · omega
  · omega
  · exact h1
end G294
namespace Go.Proofs.YtlkoafnlklhaeaaDoor
open Go.RowKit Go.Maps G294

set_option maxRecDepth 100000 in
set_option maxHeartbeats 1000000 in
theorem helpersOf_no (g e q a : Int) (w : World) (HN : Hid (grpOk g e q a = false)) : Calls Tryd.prog 125 #[locV g e q, .int .i64 a] w (RetIntsOk 3 w [] false) := by
  have a1 := turn_alloc w (.cells #[.int .i64 g, .int .i64 e, .int .i64 q] 73)
  have z1 := World.size_alloc w (.cells #[.int .i64 g, .int .i64 e, .int .i64 q] 73)
  go_enter Tryd.func125, Tryd.ntmps125
  go_wp2_with fail
  refine (groupOf_any g e q a _).mono ?_
  rintro e' w2 ⟨rfl, k2⟩
  rw [HN.out]
  have s2 := k2.size
  go_wp2_with fail
  go_ret2
  exact ⟨_, rfl, OwnInts.of_made (World.ownsRow_nil _ _ _ _), turn_trans a1 k2 (by omega)⟩

set_option maxRecDepth 100000 in
set_option maxHeartbeats 2000000 in
theorem helpersOf_yes (g e q r : Nat) (a : Int) (w : World) (hg : 1 ≤ g ∧ g ≤ 4) (he : 1 ≤ e ∧ e ≤ 4) (HL : Hid (grpOk g e q a = true)) (HR : Hid (grpR g e q a = (r : Int))) (hr : r < 4) : Calls Tryd.prog 125 #[locV g e q, .int .i64 a] w (RetIntsOk 3 w (notA a (grp2 (g * e) e g (r : Int))) true) := by
  have a1 := turn_alloc w (.cells #[.int .i64 g, .int .i64 e, .int .i64 q] 73)
  have z1 := World.size_alloc w (.cells #[.int .i64 g, .int .i64 e, .int .i64 q] 73)
  have cg := alloc_tri0 w (.int .i64 g) (.int .i64 e) (.int .i64 q) 73
  have ce := alloc_tri1 w (.int .i64 g) (.int .i64 e) (.int .i64 q) 73
  have cq := alloc_tri2 w (.int .i64 g) (.int .i64 e) (.int .i64 q) 73
  have hbd := mul_bd (a := (g : Int)) (b := (e : Int)) (by omega) (by omega)
  rw [← Int.natCast_mul] at hbd
  have HNN : Hid (g * e + g ≤ 1000) := by show g * e + g ≤ 1000; omega
  clear hbd
  generalize hL : notA a (grp2 (g * e) e g (r : Int)) = L
  have HLL := Lib.hid hL
  clear hL
  go_enter Tryd.func125, Tryd.ntmps125
  go_wp2_with fail
  refine (groupOf_any (g : Int) (e : Int) (q : Int) a _).mono ?_
  rintro e' w2 ⟨rfl, k2⟩
  rw [HL.out, HR.out]
  have s2 := k2.size
  have dg := cell_keepT cg (by omega) k2 (by omega)
  have de := cell_keepT ce (by omega) k2 (by omega)
  have dq := cell_keepT cq (by omega) k2 (by omega)
  clear cg ce cq
  go_wp2_with fail
  refine (groupsOf_own g e q _ hg he).mono ?_
  rintro e' w3 ⟨B, D, rfl, hB, hown, hG, k3⟩
  have s3 := k3.size
  have hwf : (Lit.int .i64 (r : Int)).wf = true := WalkArith.wf_i64 (by omega)
  obtain ⟨v, zs, hrun, hat, hoi, hzl, hback⟩ := groups_look hown lawInt Tryd.underlying141 zeroInts (by have := HNN.out; unfold maxLen; omega) (keyOf_int_mk Tryd.underlying3 hwf)
  have hzs := hG.looked hat hoi
  have hlk := hrun _ rfl
  have hsn : Seen w3 v (ints zs) := Seen.of_own hoi.1
  have hz1 : zs.length ≤ 1000 := by have := HNN.out; omega
  have HZS := Lib.hid hzs
  have HT : Hid (TurnIn 0 0 w w3) := turn_trans (turn_trans a1 k2 (by omega)) k3 (by omega)
  have hw3 : w.heap.size ≤ w3.heap.size := by omega
  clear hrun hat hoi hzl hback hzs hwf hown hG a1 k2 k3 dg de dq z1 s2 s3
  obtain ⟨A, c, rfl, hlc, hcm, hx⟩ := hsn
  rw [ints_length] at hlc hx
  simp only [ints_length] at hlk
  unfold maxLen at hcm
  generalize hnn : zs.length = n at *
  have HN := Lib.hid hnn
  have HX := Lib.hid hx
  clear hnn hx
  go_wp2_with fail
  go_loopw [8, 24] (fun o i wr => ∃ (k : Nat) (acc : List Int), k ≤ n ∧ i = .int .i64 k ∧ wr.ownsRow w3.heap.size 3 1 o acc.length (ints acc) ∧ Hid (acc = notA a (zs.take k)) ∧ acc.length ≤ k ∧ Below w3.heap.size w3 wr)
    (fun _ i _ => n - (intOf i).toNat)
  case atStart => exact ⟨0, [], Nat.zero_le _, rfl, World.ownsRow_nil _ _ _ _, by show [] = notA a (zs.take 0); simp [notA], Nat.le_refl _, Below.refl _ _⟩
  case round =>
    obtain ⟨k, acc, hk, rfl, hown, HACC, hak, hb⟩ := hrel
    have hbs := hb.size
    by_cases hlt : k < n
    · have hki : (k : Int) < (n : Int) := by omega
      have hkl : k < zs.length := by rw [HN.out]; exact hlt
      obtain ⟨b, off, rfl, hbl, hcell⟩ := HX.out (by omega)
      have hcx := (hb.cell (p := ⟨b, off + k, none⟩) hbl).trans (hcell k _ (ints_get zs k hkl))
      have HNX := Lib.hid (notA_next a zs k hkl)
      obtain ⟨y, hy⟩ : ∃ y, y = zs[k] := ⟨_, rfl⟩
      rw [← hy] at hcx
      have HY := Lib.hid hy
      clear hcell hy
      by_cases hya : y = a
      · have hyb : (y != a) = false := by simpa using hya
        have HA2 : Hid (acc = notA a (zs.take (k + 1))) := by show acc = _; rw [HNX.out, ← HY.out, hya, HACC.out]; simp
        clear hya
        go_wp2_with fail
        go_roundw
        case rel => exact ⟨k + 1, acc, by omega, by go_num, hown, HA2, by omega, hb⟩
        case measure => simp [intOf]; omega
      · have hyb : (y != a) = true := by simpa using hya
        have HA2 : Hid (acc ++ [y] = notA a (zs.take (k + 1))) := by show acc ++ [y] = _; rw [HNX.out, ← HY.out, HACC.out]; simp [hya]
        clear hya
        go_wp2_with (at_builtin; refine wpList_append1 rfl _ _ _ rfl w3.heap.size 3 _ _ Tryd.underlying97 infoIntG rfl _ acc.length _ rfl (hown.alloc _) wr.heap.size (.int .i64 y) rfl ?c1 rfl ?c2 ?c3 ?c4 ?_)
        case c1 => simp
        case c2 => omega
        case c3 => omega
        case c4 => simp; omega
        intro v' w' hown' hg' _
        have hb' : Below w3.heap.size w3 w' := below_append (hb.alloc hb.size _) (hown.alloc _) hg' (Nat.le_refl _) (by simp; omega)
        have hown2 : w'.ownsRow w3.heap.size 3 1 v' (acc ++ [y]).length (ints (acc ++ [y])) := by
          rw [ints_append]; simpa [ints] using hown'
        clear hown' hg'
        go_wp2_with fail
        go_roundw
        case rel => exact ⟨k + 1, acc ++ [y], by omega, by go_num, hown2, HA2, by simp; omega, hb'⟩
        case measure => simp [intOf]; omega
    · obtain rfl : k = n := by omega
      have hki : ¬ (k : Int) < (k : Int) := by omega
      have HE : Hid (acc = L) := by show acc = L; rw [← HLL.out, ← HZS.out, HACC.out, List.take_of_length_le (by rw [HN.out]; exact Nat.le_refl _)]
      go_wp2_with fail
      go_ret2
      refine ⟨_, rfl, OwnInts.of_made ?_, turn_trans HT.out (TurnIn.of_below hb) (by omega)⟩
      rw [← HE.out]
      exact own_base hown hw3

theorem helpersOf_any (g e q a : Int) (w : World) : Calls Tryd.prog 125 #[locV g e q, .int .i64 a] w (RetIntsOk 3 w (hlpR g e q a) (grpOk g e q a)) := by
  by_cases hok : grpOk g e q a = true
  · have h : locOk g e q = true := by unfold grpOk at hok; simp at hok; exact hok.1
    obtain ⟨⟨hg, he⟩, hq, -⟩ := locOk_b h
    obtain ⟨g, rfl⟩ := Int.eq_ofNat_of_zero_le (show 0 ≤ g by omega)
    obtain ⟨e, rfl⟩ := Int.eq_ofNat_of_zero_le (show 0 ≤ e by omega)
    obtain ⟨q, rfl⟩ := Int.eq_ofNat_of_zero_le (show 0 ≤ q by omega)
    have hr0 : 0 ≤ grpN (g * e) e g a := by rw [grpOk_yes h] at hok; simpa using hok
    have hr1 := grpN_lt (d := g * e) (e := e) (g := g) (by omega) rfl a
    obtain ⟨r, hr⟩ := Int.eq_ofNat_of_zero_le hr0
    rw [hlpR_yes hok, hok, hr]
    exact helpersOf_yes g e q r a w (by omega) (by omega) hok (by show grpR _ _ _ _ = _; rw [grpR_yes hok, hr]) (by omega)
  · have hok : grpOk g e q a = false := by simpa using hok
    rw [hlpR_no hok, hok]
    exact helpersOf_no g e q a w hok

end Go.Proofs.YtlkoafnlklhaeaaDoor
