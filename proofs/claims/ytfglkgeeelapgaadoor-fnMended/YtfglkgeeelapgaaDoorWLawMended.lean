/- The walk of FnMended. -/
import Derived.Test.YtfglkgeeelapgaaDoorRows
import Derived.Test.YtfglkgeeelapgaaDoorBd00
import Derived.Test.YtfglkgeeelapgaaDoorBd25
import Derived.Test.YtfglkgeeelapgaaDoorBd02
import Derived.Test.YtfglkgeeelapgaaDoorBd26
import Derived.Test.YtfglkgeeelapgaaDoorBd23
import Derived.Test.YtfglkgeeelapgaaDoorBd27
import Derived.Test.YtfglkgeeelapgaaDoorBd29
import Derived.Test.YtfglkgeeelapgaaDoorBd21
import Derived.Test.YtfglkgeeelapgaaDoorBd30
import Derived.Test.YtfglkgeeelapgaaDoorBd09
set_option linter.unusedSimpArgs false
set_option linter.unusedVariables false
namespace G294
open Go Go.RowKit
/-- a stripe in a variable -/
structure TB (w : World) (B : Nat) (x y : Value) (s : Strp) : Prop where
  c0 : w.cell? ⟨B, 0, none⟩ = some x
  c1 : w.cell? ⟨B, 1, none⟩ = some y
  lt : B < w.heap.size
  sx : Seen w x (strs s.1)
  sy : Seen w y (strs s.2)
theorem TB.keep {w w' : World} {B : Nat} {x y : Value} {s : Strp} (h : TB w B x y s) (t : TurnIn 0 0 w w') : TB w' B x y s := ⟨cell_keepT h.c0 h.lt t (by omega), cell_keepT h.c1 h.lt t (by omega), Nat.lt_of_lt_of_le h.lt t.size, h.sx.touch t, h.sy.touch t⟩
theorem tb_new {w : World} {x y : Value} {s : Strp} (T : TypeId) (hx : Seen w x (strs s.1)) (hy : Seen w y (strs s.2)) : TB (w.alloc (.cells #[x, y] T)) w.heap.size x y s :=
  ⟨alloc_duo0 _ _ _ _, alloc_duo1 _ _ _ _, by simp, hx.touch (turn_alloc w _), hy.touch (turn_alloc w _)⟩
end G294
namespace Go.Proofs.YtfglkgeeelapgaaDoor
open Go.ChangeShapes Go.WideShapes Go.ChangeAt Go.RowKit G294

set_option maxRecDepth 100000 in
set_option maxHeartbeats 8000000 in
theorem mended_walk (v u : Value) (l0 m0 : List UInt8) (w : World) (hv : Seen w v (bys l0)) (hu : Seen w u (bys m0)) (ht : Tab w) (h0 : 2 < w.heap.size) :
    Calls Tryd.prog 4 #[v, u] w fun e w' => e = .returned (.bool true) ∧ Below w.heap.size w w' := by
  have HV := Lib.hid hv
  have HU := Lib.hid hu
  obtain ⟨A, c, rfl, hlc, hcm, hx⟩ := hv
  obtain ⟨A', c', rfl, hlc', hcm', hx'⟩ := hu
  rw [bys_length] at hlc hlc' HV HU
  simp only [bys_length]
  clear hx hx'
  unfold maxLen at hcm hcm'
  generalize l0.length = n1 at *
  generalize m0.length = n2 at *
  have HTB : Hid (∀ W, TurnIn 0 0 w W → Tab W ∧ 2 < W.heap.size) := fun W h => ⟨ht.below h.to_below h0, by have := h.size; omega⟩
  clear ht
  by_cases hbig : 1048576 < wrap64 ((n1 : Int) + (n2 : Int))
  · go_enter Tryd.func4, Tryd.ntmps4
    go_wp2_with fail
    go_ret
    exact ⟨rfl, Below.refl _ _⟩
  go_enter Tryd.func4, Tryd.ntmps4
  go_wp2_with fail
  refine (drawChangeStripe_any _ l0 _ HV.out).mono ?_
  rintro e w1 ⟨x, y, s, i, r, rfl, hx, hy, ⟨hi1, hi2, hr⟩, k1⟩
  obtain ⟨Ax, cx, hxx⟩ := hx.len
  obtain ⟨Ay, cy, hyy⟩ := hy.len
  rw [strs_length] at hxx hyy
  generalize s.1.length = nx at hxx
  generalize s.2.length = ny at hyy
  subst hxx hyy
  have HS := Lib.hid (tb_new 25 hx hy)
  have ka := turn_alloc w1 (.cells #[.slice Ax nx cx, .slice Ay ny cy] 25)
  have kk := turn_trans k1 ka (by omega)
  clear hx hy k1 ka
  go_wp2_with fail
  generalize (w1.alloc (.cells #[.slice Ax nx cx, .slice Ay ny cy] 25)) = w2 at *
  generalize w1.heap.size = B1 at *
  refine (changeStripe_own _ _ s i r _ HS.out.sx HS.out.sy (by omega) (HTB.out _ kk).1 (HTB.out _ kk).2).mono ?_
  rintro e w3 ⟨x3, y3, rfl, o3, k3⟩
  obtain ⟨A3, z3, c3, A4, z4, c4, rfl, rfl⟩ := o3.isSlice
  have HX := Lib.hid (tb_new 25 o3.seen1 o3.seen2)
  have ka := turn_alloc w3 (.cells #[.slice A3 z3 c3, .slice A4 z4 c4] 25)
  have kb := turn_trans k3 ka (by omega)
  replace kk := turn_trans kk kb (by omega)
  replace HS := Lib.hid (HS.out.keep kb)
  have HZ3 : Hid (z3 = (chgR s i r).1.length) := Lib.hid (by
    obtain ⟨A, c, h⟩ := o3.seen1.len
    rw [strs_length] at h
    simp at h; exact h.2.1)
  clear o3 k3 ka kb
  have b0 := HS.out.c0
  have b1 := HS.out.c1
  go_wp2_with fail
  generalize (w3.alloc (.cells #[.slice A3 z3 c3, .slice A4 z4 c4] 25)) = w4 at *
  generalize w3.heap.size = B3 at *
  refine (sChangeStripe_own _ _ s i r _ HS.out.sx HS.out.sy (by omega)).mono ?_
  rintro e w5 ⟨x5, y5, rfl, o5, k5⟩
  obtain ⟨A5, z5, c5, A6, z6, c6, rfl, rfl⟩ := o5.isSlice
  have HY := Lib.hid (tb_new 25 o5.seen1 o5.seen2)
  have ka := turn_alloc w5 (.cells #[.slice A5 z5 c5, .slice A6 z6 c6] 25)
  have kb := turn_trans k5 ka (by omega)
  replace kk := turn_trans kk kb (by omega)
  replace HS := Lib.hid (HS.out.keep kb)
  replace HX := Lib.hid (HX.out.keep kb)
  clear o5 k5 ka kb b0 b1
  have b0 := HS.out.c0
  have b1 := HS.out.c1
  have d0 := HX.out.c0
  have d1 := HX.out.c1
  have HCO : Hid (chgOk s i r = true → strpOk (chgR s i r) = true ∧ rightR (chgR s i r) = rightR s ∧ (chgR s i r).1.getD i.toNat [] = r ∧ i.toNat < (chgR s i r).1.length ∧ strpOk s = true ∧ 0 ≤ i) := Lib.hid fun h => by
    have h1 := changed_ok h
    obtain ⟨hs, hi, _⟩ := chgOk_b h
    exact ⟨h1.1, h1.2.1, h1.2.2.1, h1.2.2.2, hs, hi.1⟩
  generalize chgOk s i r = ok at *
  generalize chgR s i r = q at *
  have hoo : (ok != ok) = false := by simp
  go_wp2_with fail
  generalize (w5.alloc (.cells #[.slice A5 z5 c5, .slice A6 z6 c6] 25)) = w6 at *
  refine (sameStripes_same _ _ _ _ q _ HX.out.sx HX.out.sy HY.out.sx HY.out.sy).mono ?_
  rintro e w7 ⟨rfl, k7⟩
  replace kk := turn_trans kk k7 (by omega)
  replace HS := Lib.hid (HS.out.keep k7)
  replace HX := Lib.hid (HX.out.keep k7)
  clear HY b0 b1 d0 d1 k7
  cases ok
  · go_wp2_with fail
    refine (drawMendStripe_any _ m0 _ (HU.out.touch kk)).mono ?_
    rintro e v1 ⟨xa, ya, ua, sa, la, rfl, hxa, hya, hua, g1⟩
    obtain ⟨Aa, ca, hxx⟩ := hxa.len
    obtain ⟨Ab, cb, hyy⟩ := hya.len
    obtain ⟨Au, cu, huu⟩ := hua.len
    rw [strs_length] at hxx hyy
    generalize sa.1.length = na at hxx
    generalize sa.2.length = nb at hyy
    generalize (ints la).length = nu at huu
    subst hxx hyy huu
    have HA := Lib.hid (tb_new 25 hxa hya)
    have ga := turn_alloc v1 (.cells #[.slice Aa na ca, .slice Ab nb cb] 25)
    have HI := Lib.hid (hua.touch ga)
    replace kk := turn_trans (turn_trans kk g1 (by omega)) ga (by omega)
    clear hxa hya hua g1 ga
    go_wp2_with fail
    generalize (v1.alloc (.cells #[.slice Aa na ca, .slice Ab nb cb] 25)) = v2 at *
    generalize v1.heap.size = C1 at *
    refine (mendStripe_own sa la _ _ _ _ HA.out.sx HA.out.sy HI.out (HTB.out _ kk).1 (HTB.out _ kk).2).mono ?_
    rintro e v3 ⟨xm, ym, rfl, om, gm⟩
    obtain ⟨M3, m3, p3, M4, m4, p4, rfl, rfl⟩ := om.isSlice
    have HM := Lib.hid (tb_new 25 om.seen1 om.seen2)
    have ga := turn_alloc v3 (.cells #[.slice M3 m3 p3, .slice M4 m4 p4] 25)
    have gb := turn_trans gm ga (by omega)
    replace kk := turn_trans kk gb (by omega)
    replace HA := Lib.hid (HA.out.keep gb)
    replace HI := Lib.hid (HI.out.touch gb)
    clear om gm ga gb
    have b0 := HA.out.c0
    have b1 := HA.out.c1
    go_wp2_with fail
    generalize (v3.alloc (.cells #[.slice M3 m3 p3, .slice M4 m4 p4] 25)) = v4 at *
    generalize v3.heap.size = C3 at *
    refine (sMendStripe_own sa la _ _ _ _ HA.out.sx HA.out.sy HI.out).mono ?_
    rintro e v5 ⟨xn, yn, rfl, on, gn⟩
    obtain ⟨M5, m5, p5, M6, m6, p6, rfl, rfl⟩ := on.isSlice
    have HN := Lib.hid (tb_new 25 on.seen1 on.seen2)
    have ga := turn_alloc v5 (.cells #[.slice M5 m5 p5, .slice M6 m6 p6] 25)
    have gb := turn_trans gn ga (by omega)
    replace kk := turn_trans kk gb (by omega)
    replace HA := Lib.hid (HA.out.keep gb)
    replace HM := Lib.hid (HM.out.keep gb)
    clear on gn ga gb b0 b1 HI
    have b0 := HA.out.c0
    have b1 := HA.out.c1
    have d0 := HM.out.c0
    have d1 := HM.out.c1
    have HMM : Hid (mndOk sa la = true → rightR sa = true → mndR sa la = sa) := Lib.hid fun h1 h2 => mended_same h1 h2
    generalize mndOk sa la = is at *
    generalize mndR sa la = mm at *
    have hii : (is != is) = false := by simp
    go_wp2_with fail
    generalize (v5.alloc (.cells #[.slice M5 m5 p5, .slice M6 m6 p6] 25)) = v6 at *
    refine (sameStripes_same _ _ _ _ mm _ HM.out.sx HM.out.sy HN.out.sx HN.out.sy).mono ?_
    rintro e v7 ⟨rfl, g7⟩
    replace kk := turn_trans kk g7 (by omega)
    replace HA := Lib.hid (HA.out.keep g7)
    replace HM := Lib.hid (HM.out.keep g7)
    clear HN b0 b1 d0 d1 g7
    have b0 := HA.out.c0
    have b1 := HA.out.c1
    go_wp2_with fail
    refine (isRight_any _ _ sa _ HA.out.sx HA.out.sy (HTB.out _ kk).1 (HTB.out _ kk).2).mono ?_
    rintro e v8 ⟨rfl, g8⟩
    replace kk := turn_trans kk g8 (by omega)
    replace HA := Lib.hid (HA.out.keep g8)
    replace HM := Lib.hid (HM.out.keep g8)
    clear b0 b1 g8
    have b0 := HA.out.c0
    have b1 := HA.out.c1
    have d0 := HM.out.c0
    have d1 := HM.out.c1
    generalize rightR sa = ri at *
    generalize strpOk sa = so at *
    cases is
    · go_wp2_with fail
      go_ret
      exact ⟨rfl, kk.to_below⟩
    cases so
    · go_wp2_with fail
      go_ret
      exact ⟨rfl, kk.to_below⟩
    cases ri
    · go_wp2_with fail
      go_ret
      exact ⟨rfl, kk.to_below⟩
    have hms := HMM.out rfl rfl
    rw [hms] at HM
    clear hms HMM
    go_wp2_with fail
    refine (sameStripes_same _ _ _ _ sa _ HM.out.sx HM.out.sy HA.out.sx HA.out.sy).mono ?_
    rintro e v9 ⟨rfl, g9⟩
    replace kk := turn_trans kk g9 (by omega)
    go_wp2_with fail
    go_ret
    exact ⟨rfl, kk.to_below⟩
  · obtain ⟨e1, e2, e3, e4, e5, e6⟩ := HCO.out rfl
    rw [← HZ3.out] at e4
    have E1 := Lib.hid e1
    have E2 := Lib.hid e2
    have E3 := Lib.hid e3
    have E5 := Lib.hid e5
    clear e1 e2 e3 e5 HCO
    obtain ⟨j, rfl⟩ := Int.eq_ofNat_of_zero_le e6
    have hjz : (j : Int) < (z3 : Int) := by simpa using e4
    clear e4 e6
    have b0 := HS.out.c0
    have b1 := HS.out.c1
    go_wp2_with fail
    refine (isRight_any _ _ s _ HS.out.sx HS.out.sy (HTB.out _ kk).1 (HTB.out _ kk).2).mono ?_
    rintro e w8 ⟨rfl, k8⟩
    replace kk := turn_trans kk k8 (by omega)
    replace HS := Lib.hid (HS.out.keep k8)
    replace HX := Lib.hid (HX.out.keep k8)
    clear b0 b1 k8
    have d0 := HX.out.c0
    have d1 := HX.out.c1
    rw [E5.out]
    go_wp2_with fail
    refine (isRight_any _ _ q _ HX.out.sx HX.out.sy (HTB.out _ kk).1 (HTB.out _ kk).2).mono ?_
    rintro e w9 ⟨rfl, k9⟩
    replace kk := turn_trans kk k9 (by omega)
    replace HX := Lib.hid (HX.out.keep k9)
    clear d0 d1 k9
    rw [E1.out, E2.out]
    generalize rightR s = rs at *
    have hrr : (rs != rs) = false := by simp
    have hjl : j < q.1.length := by rw [← HZ3.out]; omega
    have d0 := HX.out.c0
    obtain ⟨Az, cz, hzz, _, _, hcl⟩ := HX.out.sx
    simp only [Value.slice.injEq] at hzz
    obtain ⟨rfl, hn0, rfl⟩ := hzz
    clear hn0
    obtain ⟨bb, off, rfl, hbb, hcell⟩ := hcl (by rw [strs_length]; omega)
    have hcj : w9.cell? ⟨bb, off + j, none⟩ = some (.string (str r)) := by
      have h := hcell j _ (strs_get q.1 j hjl)
      have h3 := E3.out
      simp [List.getD, hjl] at h3
      rwa [h3] at h
    have hne : ((str r).toList != (str r).toList) = false := by simp
    clear hcell hcl hjl
    go_wp2_with fail
    refine (drawMendStripe_any _ m0 _ (HU.out.touch kk)).mono ?_
    rintro e v1 ⟨xa, ya, ua, sa, la, rfl, hxa, hya, hua, g1⟩
    obtain ⟨Aa, ca, hxx⟩ := hxa.len
    obtain ⟨Ab, cb, hyy⟩ := hya.len
    obtain ⟨Au, cu, huu⟩ := hua.len
    rw [strs_length] at hxx hyy
    generalize sa.1.length = na at hxx
    generalize sa.2.length = nb at hyy
    generalize (ints la).length = nu at huu
    subst hxx hyy huu
    have HA := Lib.hid (tb_new 25 hxa hya)
    have ga := turn_alloc v1 (.cells #[.slice Aa na ca, .slice Ab nb cb] 25)
    have HI := Lib.hid (hua.touch ga)
    replace kk := turn_trans (turn_trans kk g1 (by omega)) ga (by omega)
    clear hxa hya hua g1 ga
    go_wp2_with fail
    generalize (v1.alloc (.cells #[.slice Aa na ca, .slice Ab nb cb] 25)) = v2 at *
    generalize v1.heap.size = C1 at *
    refine (mendStripe_own sa la _ _ _ _ HA.out.sx HA.out.sy HI.out (HTB.out _ kk).1 (HTB.out _ kk).2).mono ?_
    rintro e v3 ⟨xm, ym, rfl, om, gm⟩
    obtain ⟨M3, m3, p3, M4, m4, p4, rfl, rfl⟩ := om.isSlice
    have HM := Lib.hid (tb_new 25 om.seen1 om.seen2)
    have ga := turn_alloc v3 (.cells #[.slice M3 m3 p3, .slice M4 m4 p4] 25)
    have gb := turn_trans gm ga (by omega)
    replace kk := turn_trans kk gb (by omega)
    replace HA := Lib.hid (HA.out.keep gb)
    replace HI := Lib.hid (HI.out.touch gb)
    clear om gm ga gb
    have b0 := HA.out.c0
    have b1 := HA.out.c1
    go_wp2_with fail
    generalize (v3.alloc (.cells #[.slice M3 m3 p3, .slice M4 m4 p4] 25)) = v4 at *
    generalize v3.heap.size = C3 at *
    refine (sMendStripe_own sa la _ _ _ _ HA.out.sx HA.out.sy HI.out).mono ?_
    rintro e v5 ⟨xn, yn, rfl, on, gn⟩
    obtain ⟨M5, m5, p5, M6, m6, p6, rfl, rfl⟩ := on.isSlice
    have HN := Lib.hid (tb_new 25 on.seen1 on.seen2)
    have ga := turn_alloc v5 (.cells #[.slice M5 m5 p5, .slice M6 m6 p6] 25)
    have gb := turn_trans gn ga (by omega)
    replace kk := turn_trans kk gb (by omega)
    replace HA := Lib.hid (HA.out.keep gb)
    replace HM := Lib.hid (HM.out.keep gb)
    clear on gn ga gb b0 b1 HI
    have b0 := HA.out.c0
    have b1 := HA.out.c1
    have d0 := HM.out.c0
    have d1 := HM.out.c1
    have HMM : Hid (mndOk sa la = true → rightR sa = true → mndR sa la = sa) := Lib.hid fun h1 h2 => mended_same h1 h2
    generalize mndOk sa la = is at *
    generalize mndR sa la = mm at *
    have hii : (is != is) = false := by simp
    go_wp2_with fail
    generalize (v5.alloc (.cells #[.slice M5 m5 p5, .slice M6 m6 p6] 25)) = v6 at *
    refine (sameStripes_same _ _ _ _ mm _ HM.out.sx HM.out.sy HN.out.sx HN.out.sy).mono ?_
    rintro e v7 ⟨rfl, g7⟩
    replace kk := turn_trans kk g7 (by omega)
    replace HA := Lib.hid (HA.out.keep g7)
    replace HM := Lib.hid (HM.out.keep g7)
    clear HN b0 b1 d0 d1 g7
    have b0 := HA.out.c0
    have b1 := HA.out.c1
    go_wp2_with fail
    refine (isRight_any _ _ sa _ HA.out.sx HA.out.sy (HTB.out _ kk).1 (HTB.out _ kk).2).mono ?_
    rintro e v8 ⟨rfl, g8⟩
    replace kk := turn_trans kk g8 (by omega)
    replace HA := Lib.hid (HA.out.keep g8)
    replace HM := Lib.hid (HM.out.keep g8)
    clear b0 b1 g8
    have b0 := HA.out.c0
    have b1 := HA.out.c1
    have d0 := HM.out.c0
    have d1 := HM.out.c1
    generalize rightR sa = ri at *
    generalize strpOk sa = so at *
    cases is
    · go_wp2_with fail
      go_ret
      exact ⟨rfl, kk.to_below⟩
    cases so
    · go_wp2_with fail
      go_ret
      exact ⟨rfl, kk.to_below⟩
    cases ri
    · go_wp2_with fail
      go_ret
      exact ⟨rfl, kk.to_below⟩
    have hms := HMM.out rfl rfl
    rw [hms] at HM
    clear hms HMM
    go_wp2_with fail
    refine (sameStripes_same _ _ _ _ sa _ HM.out.sx HM.out.sy HA.out.sx HA.out.sy).mono ?_
    rintro e v9 ⟨rfl, g9⟩
    replace kk := turn_trans kk g9 (by omega)
    go_wp2_with fail
    go_ret
    exact ⟨rfl, kk.to_below⟩

set_option maxRecDepth 100000 in
theorem walk_FnMended : G294.LawWalk Tryd.prog 4 Tryd.f4 Rows.fnMendedSpec.vars false (fun W => laidMetH Tryd.prog Rows.fnMendedRow.laid W) := by
  intro H enc W base args ds gs before hval hW hX
  have hlt0 : ∀ p ∈ before, p.block < W.heap.size := fun p hp => hW.lt p hp
  obtain ⟨p, q, hA, hV, rfl, hfz, hnd⟩ := hW
  rw [Tryd.params4] at hA hval
  obtain ⟨u0, u1, d0, d1, p0, p1, rfl, rfl, rfl, t0, t1⟩ := trodAll_two hA
  obtain ⟨l0, sn0⟩ := seen_bytes Tryd.underlying22 Tryd.underlying5 (by kernel_rfl) (hval 0 22 u0 rfl rfl) t0 (fun x hx => hlt0 x (by simp [hx]))
  obtain ⟨l1, sn1⟩ := seen_bytes Tryd.underlying22 Tryd.underlying5 (by kernel_rfl) (hval 1 22 u1 rfl rfl) t1 (fun x hx => hlt0 x (by simp [hx]))
  obtain ⟨ht, hs⟩ := tab_of (by kernel_rfl) hX 0 rfl (by kernel_rfl)
  exact mended_walk u0 u1 l0 l1 W sn0 sn1 ht hs

end Go.Proofs.YtfglkgeeelapgaaDoor
