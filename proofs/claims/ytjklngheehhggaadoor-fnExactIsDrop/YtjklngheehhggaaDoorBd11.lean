/- Joined texts: Strp1, Strp2, Meth, TextsEq, Strp3, Strp4. -/
import Derived.Test.YtjklngheehhggaaDoorBd09
import Derived.Test.YtjklngheehhggaaDoorBd10
import Derived.Deep.QuietTactic
import Derived.BigQuiet
import Derived.Deep.RegionHeld3
import Derived.Test.YtjklngheehhggaaDoorBd08
import Derived.Test.YtjklngheehhggaaDoorBd02
import Derived.IntWalk
set_option linter.unusedSimpArgs false
set_option linter.unusedVariables false
/- GoodStripe: the program's. -/
namespace Go.Proofs.YtjklngheehhggaaDoor
open Go.RowKit G294

set_option maxRecDepth 100000 in
set_option maxHeartbeats 2000000 in
theorem goodStripe_any (v u : Value) (s : Strp) (w : World) (hv : Seen w v (strs s.1)) (hu : Seen w u (strs s.2)) : Calls Tryd.prog 46 #[.agg #[v, u]] w (RetBool w (strpOk s)) := by
  obtain ⟨A, c, hvv⟩ := hv.len
  obtain ⟨B, d, huu⟩ := hu.len
  rw [strs_length] at hvv huu
  subst hvv huu
  have a1 := turn_alloc w (.cells #[.slice A s.1.length c, .slice B s.2.length d] 66)
  have l1 := alloc_lt w (.cells #[.slice A s.1.length c, .slice B s.2.length d] 66)
  have c0 := alloc_duo0 w (.slice A s.1.length c) (.slice B s.2.length d) 66
  have c1 := alloc_duo1 w (.slice A s.1.length c) (.slice B s.2.length d) 66
  have HV := Lib.hid hv
  have HU := Lib.hid hu
  have HDEF : Hid (strpOk s = (goodI s.1.length && (par4 s.2.length && textsOk (s.1 ++ s.2)))) := Lib.hid rfl
  clear hv hu
  by_cases h1 : goodI s.1.length = true
  · have H1 := Lib.hid h1
    have b1 := goodI_b h1
    by_cases h2 : par4 s.2.length = true
    · have H2 := Lib.hid h2
      have b2 := par4_b h2
      have HO : Hid (strpOk s = textsOk (s.1 ++ s.2)) := Lib.hid (by rw [HDEF.out, h1, h2]; rfl)
      clear h1 h2
      have a2 := turn_alloc (w.alloc (.cells #[.slice A s.1.length c, .slice B s.2.length d] 66)) (.cells #[.slice A s.1.length c, .slice B s.2.length d] 23)
      have d0 := alloc_duo0 (w.alloc (.cells #[.slice A s.1.length c, .slice B s.2.length d] 66)) (.slice A s.1.length c) (.slice B s.2.length d) 23
      have d1 := alloc_duo1 (w.alloc (.cells #[.slice A s.1.length c, .slice B s.2.length d] 66)) (.slice A s.1.length c) (.slice B s.2.length d) 23
      have l2 := alloc_lt (w.alloc (.cells #[.slice A s.1.length c, .slice B s.2.length d] 66)) (.cells #[.slice A s.1.length c, .slice B s.2.length d] 23)
      have k2 := turn_trans a1 a2 (by omega)
      have HC := Lib.hid (concat_own _ _ s.1 s.2 _ _ l2 d0 d1 (HV.out.touch k2) (HU.out.touch k2) (by omega) (by omega) (by omega) (by omega))
      have HK := Lib.hid k2
      rw [World.size_alloc] at HC
      clear a2 d0 d1 l2 k2 b1 b2
      go_enter Tryd.func46, Tryd.ntmps46
      go_wp2_with fail
      refine (goodSide_any _ _).mono ?_
      rintro e w' ⟨rfl, rfl⟩
      rw [H1.out]
      go_wp2_with fail
      refine (goodStripeParity_any _ _).mono ?_
      rintro e w' ⟨rfl, rfl⟩
      rw [H2.out]
      go_wp2_with fail
      refine HC.out.mono ?_
      rintro e w3 ⟨x, rfl, hx, k3⟩
      have HX := Lib.hid hx.seen
      have HK3 := Lib.hid (turn_trans HK.out k3 (by omega))
      clear hx k3
      go_wp2_with fail
      refine (equallyLong_any _ _ _ HX.out).mono ?_
      rintro e w' ⟨rfl, rfl⟩
      go_wp2_with fail
      go_ret
      exact ⟨by rw [HO.out]; rfl, HK3.out⟩
    · have H2 : Hid (par4 s.2.length = false) := Lib.hid (by simpa using h2)
      have HO : Hid (strpOk s = false) := Lib.hid (by rw [HDEF.out, H2.out]; simp)
      clear h1 h2
      go_enter Tryd.func46, Tryd.ntmps46
      go_wp2_with fail
      refine (goodSide_any _ _).mono ?_
      rintro e w' ⟨rfl, rfl⟩
      rw [H1.out]
      go_wp2_with fail
      refine (goodStripeParity_any _ _).mono ?_
      rintro e w' ⟨rfl, rfl⟩
      rw [H2.out]
      go_wp2_with fail
      go_ret
      exact ⟨by rw [HO.out]; rfl, a1⟩
  · have H1 : Hid (goodI s.1.length = false) := Lib.hid (by simpa using h1)
    have HO : Hid (strpOk s = false) := Lib.hid (by rw [HDEF.out, H1.out]; simp)
    clear h1
    go_enter Tryd.func46, Tryd.ntmps46
    go_wp2_with fail
    refine (goodSide_any _ _).mono ?_
    rintro e w' ⟨rfl, rfl⟩
    rw [H1.out]
    go_wp2_with fail
    go_ret
    exact ⟨by rw [HO.out]; rfl, a1⟩

end Go.Proofs.YtjklngheehhggaaDoor

/- GoodStripe: the model's. -/
namespace G294
open Go Go.RowKit
/-- append(s, x...) of a row of one-cell elements, onto a row of the call's own, as one step of a region, guarded or not -/
theorem step_appendG {P : Program} {w : World} {ops : Array Oper} {o : Oper} {a : Act} {K : Act → World → Prop} {Q : Exit → Act → World → Prop} {E : Prop} (hw : Region.wanted o (yielded ops a.tmps) = true) (s x : Operand) (t : TypeId)
    (ho : o.op = .call { callee := .builtin .append, args := #[s, x], argTypes := #[t, t] })
    (base : Nat) (e : TypeId) (z : Value) (bytes : Nat) (ht : P.underlying t = some (.slice e)) (hinfo : (P.info? e).map (fun i => (i.zero, i.size, i.bytes)) = some (some z, 1, bytes)) (hzs : z.cells.size = 1)
    (v : Value) (n : Nat) (xs : List Value) (hs : a.eval s = v) (hown : w.ownsRow base e 1 v n xs)
    (A : Addr) (m c : Nat) (ys : List Value) (hx : a.eval x = .slice (some A) m c) (hl : ys.length = m) (hc : ∀ j y, ys[j]? = some y → w.cell? (A.add j) = some y) (h1 : ∀ y, y ∈ ys → y.oneCell' = true)
    (hn : n + m ≤ 1000000000) (hby : bytes ≤ 1000) (hbase : base ≤ w.heap.size)
    (h : ∀ v' w', w'.ownsRow base e 1 v' (n + m) (xs ++ ys) → w.grownBy w' v.ownBlock → (v'.ownBlock = v.ownBlock ∨ v'.ownBlock = some w.heap.size) → K (a.put o.dst v') w') :
    if Region.wanted o (yielded ops a.tmps) = true then Oper.wp P o a w K Q else E := by
  rw [if_pos hw]
  obtain ⟨i, hi, hz, hsz, hbs⟩ := info_parts hinfo
  obtain ⟨v', w', hrun, r1, r2, _, r4⟩ := run_append_own_at (P := P) w base t o.type e i z 1 bytes ht hi hz hsz hbs hzs (by omega) v n xs hown A m c ys (by omega) hc h1 (by unfold maxLen; omega) (by
    have : (n + m) * bytes ≤ 1000000000 * 1000 := Nat.mul_le_mul (by omega) hby
    omega) hbase
  unfold Oper.wp execOp
  simp only [ho, resolve, invoke, builtin, Sem.run_bind, Sem.run_pure, Result.andThen_ok, List.map_toArray, List.map_cons, List.map_nil, hs, hx, hrun]
  exact h v' w' r1 r2 r4
/-- the two cells of a box stand above -/
def DuoAt (w1 : World) (B : Nat) (x y : Value) (W : World) : Prop := Below w1.heap.size w1 W ∧ W.cell? ⟨B, 0, none⟩ = some x ∧ W.cell? ⟨B, 1, none⟩ = some y
theorem duo_below {w1 W : World} {B : Nat} {x y : Value} (c0 : w1.cell? ⟨B, 0, none⟩ = some x) (c1 : w1.cell? ⟨B, 1, none⟩ = some y) (hB : B < w1.heap.size) (hb : Below w1.heap.size w1 W) : DuoAt w1 B x y W :=
  ⟨hb, (hb.cell (p := ⟨B, 0, none⟩) hB).trans c0, (hb.cell (p := ⟨B, 1, none⟩) hB).trans c1⟩
theorem seen_cells {w W : World} {v : Value} {L : List (List UInt8)} (h : Seen w v (strs L)) (h1 : 1 ≤ L.length) : ∃ b off c, v = .slice (some ⟨b, off, none⟩) L.length c ∧ b < w.heap.size ∧ L.length ≤ 9223372036854775807 ∧ ∀ W, Below w.heap.size w W → ∀ j y, (strs L)[j]? = some y → W.cell? ((⟨b, off, none⟩ : Addr).add j) = some y := by
  obtain ⟨A, c, rfl, hlc, hcm, hx⟩ := h
  rw [strs_length] at hlc hx
  obtain ⟨b, off, rfl, hbl, hcell⟩ := hx (by omega)
  unfold maxLen at hcm
  refine ⟨b, off, c, by rw [strs_length], hbl, by omega, fun W hb j y hj => ?_⟩
  rw [Addr.add_lit]
  exact (hb.cell (p := ⟨b, off + j, none⟩) hbl).trans (hcell j y hj)
end G294
namespace Go.Proofs.YtjklngheehhggaaDoor
open Go.RowKit G294

set_option maxRecDepth 100000 in
set_option maxHeartbeats 4000000 in
theorem sGoodStripe_any (v u : Value) (s : Strp) (w : World) (hv : Seen w v (strs s.1)) (hu : Seen w u (strs s.2)) : Calls Tryd.prog 101 #[.agg #[v, u]] w (RetBool w (strpOk s)) := by
  have HV := Lib.hid hv
  have HU := Lib.hid hu
  obtain ⟨A, c, hvv⟩ := hv.len
  obtain ⟨B, d, huu⟩ := hu.len
  rw [strs_length] at hvv huu
  subst hvv huu
  have HDEF : Hid (strpOk s = (goodI s.1.length && (par4 s.2.length && textsOk (s.1 ++ s.2)))) := Lib.hid rfl
  clear hv hu
  by_cases h1 : goodI s.1.length = true
  · have H1 : Hid (∀ W, Calls Tryd.prog 88 #[.int .i64 (s.1.length : Int), .int .i64 1, .int .i64 16] W fun e w' => e = .returned (.bool true) ∧ W = w') := Lib.hid (fun W => h1 ▸ l1In_side _ W)
    have b1 := goodI_b h1
    by_cases h2 : par4 s.2.length = true
    · have H2 : Hid (∀ W, Calls Tryd.prog 88 #[.int .i64 (s.2.length : Int), .int .i64 1, .int .i64 4] W fun e w' => e = .returned (.bool true) ∧ W = w') := Lib.hid (fun W => h2 ▸ l1In_four _ W)
      have b2 := par4_b h2
      have HO : Hid (strpOk s = textsOk (s.1 ++ s.2)) := Lib.hid (by rw [HDEF.out, h1, h2]; rfl)
      clear h1 h2
      obtain ⟨b, off, c', hvv, hbl, hlm, hcell⟩ := seen_cells (W := w) HV.out (by omega)
      obtain ⟨b', off', d', huu, hbl', hlm', hcell'⟩ := seen_cells (W := w) HU.out (by omega)
      obtain ⟨rfl, rfl⟩ : A = some ⟨b, off, none⟩ ∧ c = c' := by simpa using hvv
      obtain ⟨rfl, rfl⟩ : B = some ⟨b', off', none⟩ ∧ d = d' := by simpa using huu
      clear hvv huu
      have HC0 := Lib.hid hcell
      have HC1 := Lib.hid hcell'
      have HL0 : Hid ((strs s.1).length = s.1.length) := Lib.hid (strs_length _)
      have HL1 : Hid ((strs s.2).length = s.2.length) := Lib.hid (strs_length _)
      have HLL : Hid ((s.1 ++ s.2).length = s.1.length + s.2.length) := Lib.hid (by simp)
      have HA : Hid (strs (s.1 ++ s.2) = strs s.1 ++ strs s.2) := Lib.hid (strs_append _ _)
      have bb1 : 1 ≤ s.1.length ∧ s.1.length ≤ 16 := by omega
      have bb2 : 1 ≤ s.2.length ∧ s.2.length ≤ 4 := by omega
      clear hcell hcell' b1 b2 HDEF HV HU
      generalize s.1.length = n at *
      generalize s.2.length = m at *
      have a1 := turn_alloc w (.cells #[.slice (some ⟨b, off, none⟩) n c, .slice (some ⟨b', off', none⟩) m d] 66)
      have l1 := alloc_lt w (.cells #[.slice (some ⟨b, off, none⟩) n c, .slice (some ⟨b', off', none⟩) m d] 66)
      have c0 := alloc_duo0 w (.slice (some ⟨b, off, none⟩) n c) (.slice (some ⟨b', off', none⟩) m d) 66
      have c1 := alloc_duo1 w (.slice (some ⟨b, off, none⟩) n c) (.slice (some ⟨b', off', none⟩) m d) 66
      go_enter Tryd.func101, Tryd.ntmps101
      go_wp2_with fail
      generalize (w.alloc (.cells #[.slice (some ⟨b, off, none⟩) n c, .slice (some ⟨b', off', none⟩) m d] 66)) = w1 at *
      have HW : Hid (∀ W, Below w1.heap.size w1 W → Below w.heap.size w W) := Lib.hid (fun W h => (TurnIn.of_below h).base a1.to_below a1.size (by omega))
      have HS : Hid (∀ W, Below w1.heap.size w1 W → DuoAt w1 w.heap.size (.slice (some ⟨b, off, none⟩) n c) (.slice (some ⟨b', off', none⟩) m d) W) := Lib.hid (fun W h => duo_below c0 c1 l1 h)
      have hS0 : Below w1.heap.size w1 w1.drew ∧ w1.drew.cell? ⟨w.heap.size, 0, none⟩ = some (.slice (some ⟨b, off, none⟩) n c) ∧ w1.drew.cell? ⟨w.heap.size, 1, none⟩ = some (.slice (some ⟨b', off', none⟩) m d) := ⟨(Below.refl _ _).drew, c0, c1⟩
      have hbA : Below w1.heap.size w1 (w1.alloc (.cells #[] 9)).drew := ((Below.refl _ _).alloc (Nat.le_refl _) _).drew
      have hSA : Below w1.heap.size w1 (w1.alloc (.cells #[] 9)).drew ∧ (w1.alloc (.cells #[] 9)).drew.cell? ⟨w.heap.size, 0, none⟩ = some (.slice (some ⟨b, off, none⟩) n c) ∧ (w1.alloc (.cells #[] 9)).drew.cell? ⟨w.heap.size, 1, none⟩ = some (.slice (some ⟨b', off', none⟩) m d) := HS.out _ hbA
      have hown0 : (w1.alloc (.cells #[] 9)).drew.ownsRow w1.heap.size 9 1 (.slice (some ⟨w1.heap.size, 0, none⟩) 0 0) 0 [] := (World.ownsRow_lit w1 #[] 0 (Nat.le_refl _) (by unfold maxLen; omega) rfl).drew
      have HYA := Lib.hid (HC0.out _ (HW.out _ hbA))
      go_region_held3 (fun W => Below w1.heap.size w1 W ∧ W.cell? ⟨w.heap.size, 0, none⟩ = some (.slice (some ⟨b, off, none⟩) n c) ∧ W.cell? ⟨w.heap.size, 1, none⟩ = some (.slice (some ⟨b', off', none⟩) m d))
        (first | exact hS0 | exact hSA | exact hS1 | exact hS2 | assumption)
        (first
          | (go_at_call 88; (first | (with_reducible refine (H1.out _).mono ?_; rintro e w' ⟨rfl, rfl⟩) | (with_reducible refine (H2.out _).mono ?_; rintro e w' ⟨rfl, rfl⟩)))
          | (refine step_appendG (by rfl) _ _ _ (by rfl) w1.heap.size 9 _ _ Tryd.underlying23 infoStr rfl _ 0 [] (by rfl) hown0 ⟨b, off, none⟩ n c (strs s.1) (by rfl) HL0.out HYA.out (strs_oneC _) (by omega) (by omega) (by simp) ?_; intro u1 w2 hown1 hg1 hv1; obtain ⟨C1, m1, d1, rfl⟩ := own_isSlice hown1; have hb2 : Below w1.heap.size w1 w2 := hbA.grown hg1 hbA.size (fun g e => by simp [Value.ownBlock] at e; omega); have hS1 := HS.out _ hb2; have HYB := Lib.hid (HC1.out _ (HW.out _ hb2)); have hs2 := hb2.size)
          | (refine step_appendG (by rfl) _ _ _ (by rfl) w1.heap.size 9 _ _ Tryd.underlying23 infoStr rfl _ (0 + n) ([] ++ strs s.1) (by rfl) hown1 ⟨b', off', none⟩ m d (strs s.2) (by rfl) HL1.out HYB.out (strs_oneC _) (by omega) (by omega) hs2 ?_; intro u2 w3 hown2 hg2 hv2; have hb3 : Below w1.heap.size w1 w3 := hb2.grown hg2 hs2 (fun g e => (hown1.lt g e).1); have hS2 := HS.out _ hb3; have HX : Hid (Seen w3 u2 (strs (s.1 ++ s.2))) := Lib.hid (Seen.of_own (by rw [HA.out]; simpa using hown2)); obtain ⟨C2, m2, d2, rfl⟩ := own_isSlice hown2)
          | (go_at_call 141; refine (l3Texts_any _ _ _ HX.out).mono ?_; rintro e w' ⟨rfl, rfl⟩))
      all_goals
        go_wp2_with fail
        go_ret
        exact ⟨by rw [HO.out]; rfl, TurnIn.of_below (HW.out _ hS2.1)⟩
    · have H2 : Hid (∀ W, Calls Tryd.prog 88 #[.int .i64 (s.2.length : Int), .int .i64 1, .int .i64 4] W fun e w' => e = .returned (.bool false) ∧ W = w') := Lib.hid (fun W => (show par4 s.2.length = false by simpa using h2) ▸ l1In_four _ W)
      have HO : Hid (strpOk s = false) := Lib.hid (by rw [HDEF.out, (show par4 s.2.length = false by simpa using h2)]; simp)
      clear h1 h2 HDEF HV HU b1
      generalize s.1.length = n at *
      generalize s.2.length = m at *
      have a1 := turn_alloc w (.cells #[.slice A n c, .slice B m d] 66)
      have c0 := alloc_duo0 w (.slice A n c) (.slice B m d) 66
      have c1 := alloc_duo1 w (.slice A n c) (.slice B m d) 66
      go_enter Tryd.func101, Tryd.ntmps101
      go_wp2_with fail
      go_quiet ((go_at_call 88; first | with_reducible exact quietly (H1.out _) | exact quietly (H2.out _)))
      go_wp2_with fail
      go_ret
      exact ⟨by rw [HO.out]; rfl, TurnIn.of_below (below_drewN a1.to_below _)⟩
  · have H1 : Hid (∀ W, Calls Tryd.prog 88 #[.int .i64 (s.1.length : Int), .int .i64 1, .int .i64 16] W fun e w' => e = .returned (.bool false) ∧ W = w') := Lib.hid (fun W => (show goodI s.1.length = false by simpa using h1) ▸ l1In_side _ W)
    have HO : Hid (strpOk s = false) := Lib.hid (by rw [HDEF.out, (show goodI s.1.length = false by simpa using h1)]; simp)
    clear h1 HDEF HV HU
    generalize s.1.length = n at *
    generalize s.2.length = m at *
    have a1 := turn_alloc w (.cells #[.slice A n c, .slice B m d] 66)
    have c0 := alloc_duo0 w (.slice A n c) (.slice B m d) 66
    have c1 := alloc_duo1 w (.slice A n c) (.slice B m d) 66
    go_enter Tryd.func101, Tryd.ntmps101
    go_wp2_with fail
    go_quiet ((go_at_call 88; exact quietly (H1.out _)))
    go_wp2_with fail
    go_ret
    exact ⟨by rw [HO.out]; rfl, TurnIn.of_below (below_drewN a1.to_below _)⟩

end Go.Proofs.YtjklngheehhggaaDoor

/- The methods that make the texts of a product, a sum, a merge and a change. -/
namespace G294
open Go Go.RowKit
theorem grew_str {P : Program} {f : FuncId} {args : Array Value} {w : World} {p : Grew w} {s : List UInt8} (h : Calls P f args p.at_ (RetStr p.at_ s)) :
    Calls P f args p.at_ fun e w'' => e = .returned (.string (str s)) ∧ ∃ q : Grew w, w'' = q.at_ :=
  h.mono fun _ w'' ⟨he, ht⟩ => ⟨he, ⟨w'', ht.base p.old p.old.size (by omega)⟩, rfl⟩
theorem grew_same {P : Program} {f : FuncId} {args : Array Value} {w : World} {p : Grew w} {v : Value} (h : Calls P f args p.at_ fun e w'' => e = .returned v ∧ p.at_ = w'') :
    Calls P f args p.at_ fun e w'' => e = .returned v ∧ ∃ q : Grew w, w'' = q.at_ :=
  h.mono fun _ w'' ⟨he, ht⟩ => ⟨he, p, ht.symm⟩
theorem seen_at {w : World} {v : Value} {L : List (List UInt8)} (h : Seen w v (strs L)) {i : Nat} (hi : i < L.length) : ∃ b off c, v = .slice (some ⟨b, off, none⟩) L.length c ∧ b < w.heap.size ∧ L.length ≤ 9223372036854775807 ∧ w.cell? ⟨b, off + i, none⟩ = some (.string (str (L.getD i []))) := by
  obtain ⟨A, c, rfl, hlc, hcm, hx⟩ := h
  rw [strs_length] at hlc hx
  obtain ⟨b, off, rfl, hbl, hcell⟩ := hx (by omega)
  unfold maxLen at hcm
  refine ⟨b, off, c, by rw [strs_length], hbl, by omega, ?_⟩
  rw [hcell i _ (strs_get L i hi)]
  simp [List.getD, hi]
theorem alloc4 (w : World) (a b c d : Value) (T : TypeId) : (w.alloc (.cells #[a, b, c, d] T)).cell? ⟨w.heap.size, 0, none⟩ = some a ∧ (w.alloc (.cells #[a, b, c, d] T)).cell? ⟨w.heap.size, 1, none⟩ = some b ∧ (w.alloc (.cells #[a, b, c, d] T)).cell? ⟨w.heap.size, 2, none⟩ = some c ∧ (w.alloc (.cells #[a, b, c, d] T)).cell? ⟨w.heap.size, 3, none⟩ = some d := by simp
end G294
namespace Go.Proofs.YtjklngheehhggaaDoor
open Go.RowKit G294

set_option maxRecDepth 100000 in
set_option maxHeartbeats 1000000 in
theorem productText_own (r c n : Nat) (F : Ents) (T : List (List UInt8)) (vm vt : Value) (i : Nat) (w : World) (hm : SeenM w vm (mkM r c F)) (htx : Seen w vt (strs T)) (hi : i < r) (hc : T.length = c) (hc1 : 1 ≤ c) (hcc : c ≤ 1000)
    (hn : ∀ j, j < c → (T.getD j []).length = n) (hn2 : n ≤ 1000) (ht : Tab w) (h0 : 1 < w.heap.size) : Calls Tryd.prog 113 #[.agg #[vm, vt], .int .i64 i] w (RetStr w (comb c n (F i) T)) := by
  obtain ⟨bb, off, cp, A, c', hvv, hrm, hbb, hrow, hcl, hsr⟩ := hm.rowF i hi
  subst hvv
  obtain ⟨A2, c2, hvv2⟩ := htx.len
  rw [strs_length, hc] at hvv2
  subst hvv2
  have a1 := turn_alloc w (.cells #[.slice (some ⟨bb, off, none⟩) r cp, .slice A2 c c2] 146)
  have l1 := alloc_lt w (.cells #[.slice (some ⟨bb, off, none⟩) r cp, .slice A2 c c2] 146)
  have e0 := grew_cell (alloc_duo0 w (.slice (some ⟨bb, off, none⟩) r cp) (.slice A2 c c2) 146) l1
  have e1 := grew_cell (alloc_duo1 w (.slice (some ⟨bb, off, none⟩) r cp) (.slice A2 c c2) 146) l1
  have er := grew_cell (cell_turn a1 hrow hbb) (Nat.lt_of_lt_of_le hbb a1.size)
  have HC := Lib.hid (fun p : Grew (w.alloc (.cells #[.slice (some ⟨bb, off, none⟩) r cp, .slice A2 c c2] 146)) => grew_str (combined_own c n (F i) T (.slice A c c') (.slice A2 c c2) p.at_ ((hsr.touch a1).below p.old) ((htx.touch a1).below p.old) hc hc1 hcc hn hn2 ((ht.below a1.to_below h0).below p.old (Nat.lt_of_lt_of_le h0 a1.size)) (Nat.lt_of_lt_of_le (Nat.lt_of_lt_of_le h0 a1.size) p.old.size)))
  have HA1 := Lib.hid a1
  have hki : (i : Int) < (r : Int) := by omega
  unfold maxLen at hrm
  clear hm htx hrow hsr ht hn l1 hc a1
  go_enter Tryd.func113, Tryd.ntmps113
  go_wp2_with fail
  refine wp_region_grew (by kernel_rfl) (by kernel_rfl) ?_
  repeat (first | go_big_quiet_skip | quiet_step ((go_at_call 74; exact HC.out _)))
  refine wpQuiet_nil ?_
  rintro _ ⟨p, rfl⟩
  go_wp2_with fail
  go_ret
  exact ⟨rfl, turn_of_below HA1.out.to_below (TurnIn.of_below p.old)⟩

set_option maxRecDepth 100000 in
set_option maxHeartbeats 1000000 in
theorem sumText_own (va vb : Value) (L M : List (List UInt8)) (i : Nat) (w : World) (ha : Seen w va (strs L)) (hb : Seen w vb (strs M)) (hi : i < L.length) (hj : i < M.length) (hl : (M.getD i []).length = (L.getD i []).length) (hn : (L.getD i []).length ≤ 1000) (ht : Tab w) (h0 : 1 < w.heap.size) :
    Calls Tryd.prog 105 #[.agg #[va, vb], .int .i64 i] w (RetStr w (plusL (L.getD i []) 1 (M.getD i []))) := by
  obtain ⟨b, off, c, rfl, hbl, hlm, hcx⟩ := seen_at ha hi
  obtain ⟨b', off', c', rfl, hbl', hlm', hcy⟩ := seen_at hb hj
  generalize L.getD i [] = x at *
  generalize M.getD i [] = y at *
  have hki : (i : Int) < (L.length : Int) := by omega
  have hkj : (i : Int) < (M.length : Int) := by omega
  generalize L.length = n at *
  generalize M.length = m at *
  have a1 := turn_alloc w (.cells #[.slice (some ⟨b, off, none⟩) n c, .slice (some ⟨b', off', none⟩) m c'] 142)
  have l1 := alloc_lt w (.cells #[.slice (some ⟨b, off, none⟩) n c, .slice (some ⟨b', off', none⟩) m c'] 142)
  have e0 := grew_cell (alloc_duo0 w (.slice (some ⟨b, off, none⟩) n c) (.slice (some ⟨b', off', none⟩) m c') 142) l1
  have e1 := grew_cell (alloc_duo1 w (.slice (some ⟨b, off, none⟩) n c) (.slice (some ⟨b', off', none⟩) m c') 142) l1
  have ex := grew_cell (cell_turn a1 hcx hbl) (Nat.lt_of_lt_of_le hbl a1.size)
  have ey := grew_cell (cell_turn a1 hcy hbl') (Nat.lt_of_lt_of_le hbl' a1.size)
  have HC : Hid (∀ p : Grew (w.alloc (.cells #[.slice (some ⟨b, off, none⟩) n c, .slice (some ⟨b', off', none⟩) m c'] 142)), Calls Tryd.prog 164 #[.string (str x), .int .u8 1, .string (str y)] p.at_ fun e w'' => e = .returned (.string (str (plusL x 1 y))) ∧ ∃ q : Grew (w.alloc (.cells #[.slice (some ⟨b, off, none⟩) n c, .slice (some ⟨b', off', none⟩) m c'] 142)), w'' = q.at_) :=
    Lib.hid (fun p => grew_str (plusTimes_own x y 1 p.at_ hl hn ((ht.below a1.to_below h0).below p.old (Nat.lt_of_lt_of_le h0 a1.size)) (Nat.lt_of_lt_of_le (Nat.lt_of_lt_of_le h0 a1.size) p.old.size)))
  have HA1 := Lib.hid a1
  clear ha hb hcx hcy ht l1
  go_enter Tryd.func105, Tryd.ntmps105
  go_wp2_with fail
  refine wp_region_grew (by kernel_rfl) (by kernel_rfl) ?_
  repeat (first | go_big_quiet_skip | quiet_step ((go_at_call 164; exact HC.out _)))
  refine wpQuiet_nil ?_
  rintro _ ⟨p, rfl⟩
  go_wp2_with fail
  go_ret
  exact ⟨rfl, turn_of_below HA1.out.to_below (TurnIn.of_below p.old)⟩

set_option maxRecDepth 100000 in
set_option maxHeartbeats 2000000 in
theorem mergeText_own (k : Nat) (va vb vc vd : Value) (D L E M : List (List UInt8)) (i : Nat) (w : World) (hd : Seen w va (strs D)) (ha : Seen w vb (strs L)) (he : Seen w vc (strs E)) (hb : Seen w vd (strs M)) (hk : D.length = k) (hk2 : k ≤ 1000) (hi : i < L.length) (hj : i < M.length) (hi2 : i ≤ 1000) (hl : (M.getD i []).length = (L.getD i []).length) (hn : (L.getD i []).length ≤ 1000) (ht : Tab w) (h0 : 1 < w.heap.size) :
    Calls Tryd.prog 100 #[.agg #[va, vb, vc, vd], .int .i64 i] w (RetStr w (plusL (L.getD i []) (prmF i k) (M.getD i []))) := by
  obtain ⟨b, off, c, rfl, hbl, hlm, hcx⟩ := seen_at ha hi
  obtain ⟨b', off', c', rfl, hbl', hlm', hcy⟩ := seen_at hb hj
  obtain ⟨A, ca, hvv⟩ := hd.len
  rw [strs_length, hk] at hvv
  subst hvv
  obtain ⟨A2, ca2, hvv⟩ := he.len
  rw [strs_length] at hvv
  subst hvv
  generalize L.getD i [] = x at *
  generalize M.getD i [] = y at *
  have hki : (i : Int) < (L.length : Int) := by omega
  have hkj : (i : Int) < (M.length : Int) := by omega
  generalize L.length = n at *
  generalize M.length = m at *
  generalize E.length = e at *
  have a1 := turn_alloc w (.cells #[.slice A k ca, .slice (some ⟨b, off, none⟩) n c, .slice A2 e ca2, .slice (some ⟨b', off', none⟩) m c'] 138)
  have l1 := alloc_lt w (.cells #[.slice A k ca, .slice (some ⟨b, off, none⟩) n c, .slice A2 e ca2, .slice (some ⟨b', off', none⟩) m c'] 138)
  obtain ⟨z0, z1, z2, z3⟩ := alloc4 w (.slice A k ca) (.slice (some ⟨b, off, none⟩) n c) (.slice A2 e ca2) (.slice (some ⟨b', off', none⟩) m c') 138
  have e0 := grew_cell z0 l1
  have e1 := grew_cell z1 l1
  have e2 := grew_cell z2 l1
  have e3 := grew_cell z3 l1
  have ex := grew_cell (cell_turn a1 hcx hbl) (Nat.lt_of_lt_of_le hbl a1.size)
  have ey := grew_cell (cell_turn a1 hcy hbl') (Nat.lt_of_lt_of_le hbl' a1.size)
  have HT1 := Lib.hid (ht.below a1.to_below h0)
  have h01 := Nat.lt_of_lt_of_le h0 a1.size
  have HA1 := Lib.hid a1
  clear ha hb hd he hcx hcy l1 z0 z1 z2 z3 a1 ht
  go_enter Tryd.func100, Tryd.ntmps100
  go_wp2_with fail
  generalize (w.alloc (.cells #[.slice A k ca, .slice (some ⟨b, off, none⟩) n c, .slice A2 e ca2, .slice (some ⟨b', off', none⟩) m c'] 138)) = w1 at *
  have HC : Hid (∀ p : Grew w1, Calls Tryd.prog 164 #[.string (str x), .int .u8 ((prmF i k).toNat : Int), .string (str y)] p.at_ fun e w'' => e = .returned (.string (str (plusL x (prmF i k) y))) ∧ ∃ q : Grew w1, w'' = q.at_) :=
    Lib.hid (fun p => grew_str (plusTimes_own x y (prmF i k) p.at_ hl hn (HT1.out.below p.old h01) (Nat.lt_of_lt_of_le h01 p.old.size)))
  have HF : Hid (∀ p : Grew w1, Calls Tryd.prog 116 #[.int .i64 i, .int .i64 k] p.at_ fun e w'' => e = .returned (.int .u8 ((prmF i k).toNat : Int)) ∧ ∃ q : Grew w1, w'' = q.at_) :=
    Lib.hid (fun p => grew_same (parityFactor_any i k p.at_ hi2 hk2 (HT1.out.below p.old h01)))
  refine wp_region_grew (by kernel_rfl) (by kernel_rfl) ?_
  repeat (first | go_big_quiet_skip | quiet_step ((first | (go_at_call 164; exact HC.out _) | (go_at_call 116; exact HF.out _))))
  refine wpQuiet_nil ?_
  rintro _ ⟨p, rfl⟩
  go_wp2_with fail
  go_ret
  exact ⟨rfl, turn_of_below HA1.out.to_below (TurnIn.of_below p.old)⟩

end Go.Proofs.YtjklngheehhggaaDoor

/- Lists of texts compared: slices.Equal and the model's l6Same. -/
namespace G294
open Go Go.RowKit
theorem str_other {x y : List UInt8} (h : x ≠ y) : ((str x).toList == (str y).toList) = false := by
  rw [str_toList, str_toList]; simpa using h
theorem take_same {α : Type} {L M : List α} {k : Nat} (h : L.take k = M.take k) (h1 : k < L.length) (h2 : k < M.length) (e : L[k] = M[k]) : L.take (k + 1) = M.take (k + 1) := by
  rw [List.take_succ_eq_append_getElem h1, List.take_succ_eq_append_getElem h2, h, e]
end G294
namespace Go.Proofs.YtjklngheehhggaaDoor
open Go.RowKit G294

set_option maxRecDepth 100000 in
set_option maxHeartbeats 1000000 in
theorem slicesEqualS_any (v u : Value) (L M : List (List UInt8)) (w : World) (hv : Seen w v (strs L)) (hu : Seen w u (strs M)) (hlen : M.length = L.length) :
    Calls Tryd.prog 107 #[v, u] w (RetBool w (decide (L = M))) := by
  obtain ⟨A, c, rfl, hlc, hcm, hx⟩ := hv
  obtain ⟨A', c', rfl, hlc', hcm', hx'⟩ := hu
  rw [strs_length] at hlc hx hlc' hx'
  simp only [strs_length]
  rw [hlen] at hlc' hx' ⊢
  unfold maxLen at hcm hcm'
  generalize hnn : L.length = n at *
  have HN := Lib.hid hnn
  have HM := Lib.hid hlen
  clear hnn hlen
  have hbn : ((n : Int) != (n : Int)) = false := by simp
  go_enter Tryd.func107, Tryd.ntmps107
  go_wp2_with fail
  go_loopw [13] (fun i wr => ∃ k : Nat, k ≤ n ∧ i = .int .i64 k ∧ Below w.heap.size w wr ∧ Hid (L.take k = M.take k))
    (fun i _ => n - (intOf i).toNat)
  case atStart => exact ⟨0, Nat.zero_le _, rfl, Below.refl _ _, Lib.hid rfl⟩
  case round =>
    obtain ⟨k, hk, rfl, hb, HE⟩ := hrel
    by_cases hlt : k < n
    · obtain ⟨b, off, rfl, hbl, hcell⟩ := hx (by omega)
      obtain ⟨b', off', rfl, hbl', hcell'⟩ := hx' (by omega)
      have hkl : k < L.length := by rw [HN.out]; exact hlt
      have hkm : k < M.length := by rw [HM.out]; exact hlt
      have hcx : wr.cell? ⟨b, off + k, none⟩ = some (.string (str L[k])) := (hb.cell (p := ⟨b, off + k, none⟩) hbl).trans (hcell k _ (strs_get L k hkl))
      have hcy : wr.cell? ⟨b', off' + k, none⟩ = some (.string (str M[k])) := (hb.cell (p := ⟨b', off' + k, none⟩) hbl').trans (hcell' k _ (strs_get M k hkm))
      clear hcell hcell' hx hx'
      have hki : (k : Int) < (n : Int) := by omega
      by_cases he : L[k] = M[k]
      · have HE2 := Lib.hid (take_same HE.out hkl hkm he)
        rw [← he] at hcy
        have hbb := str_same L[k]
        clear he
        go_wp2_with fail
        go_quiet (fail)
        go_wp2_with fail
        go_roundw
        case rel => exact ⟨k + 1, by omega, by go_num, below_drewN hb _, HE2⟩
        case measure => simp [intOf]; omega
      · have hbb := str_other he
        have HNE : Hid (decide (L = M) = false) := by
          show decide (L = M) = false
          simp only [decide_eq_false_iff_not]
          intro e; subst e; exact he rfl
        clear he
        go_wp2_with fail
        go_quiet (fail)
        go_wp2_with fail
        go_ret
        exact ⟨by rw [HNE.out]; rfl, TurnIn.of_below (below_drewN hb _)⟩
    · obtain rfl : k = n := by omega
      have hki : ¬ (k : Int) < (k : Int) := by omega
      have HEQ : Hid (decide (L = M) = true) := by
        show decide (L = M) = true
        have e := HE.out
        rw [List.take_of_length_le (by rw [HN.out]; exact Nat.le_refl _), List.take_of_length_le (by rw [HM.out]; exact Nat.le_refl _)] at e
        simpa using e
      go_wp2_with fail
      go_ret
      exact ⟨by rw [HEQ.out]; rfl, TurnIn.of_below hb⟩

set_option maxRecDepth 100000 in
set_option maxHeartbeats 1000000 in
theorem l6Same_any (v u : Value) (L M : List (List UInt8)) (w : World) (hv : Seen w v (strs L)) (hu : Seen w u (strs M)) (hlen : M.length = L.length) :
    Calls Tryd.prog 108 #[v, u] w (RetBool w (decide (L = M))) := by
  obtain ⟨A, c, rfl, hlc, hcm, hx⟩ := hv
  obtain ⟨A', c', rfl, hlc', hcm', hx'⟩ := hu
  rw [strs_length] at hlc hx hlc' hx'
  simp only [strs_length]
  rw [hlen] at hlc' hx' ⊢
  unfold maxLen at hcm hcm'
  generalize hnn : L.length = n at *
  have HN := Lib.hid hnn
  have HM := Lib.hid hlen
  clear hnn hlen
  have hbn : ((n : Int) != (n : Int)) = false := by simp
  go_enter Tryd.func108, Tryd.ntmps108
  go_wp2_with fail
  go_loopw [13] (fun i wr => ∃ k : Nat, k ≤ n ∧ i = .int .i64 k ∧ Below w.heap.size w wr ∧ Hid (L.take k = M.take k))
    (fun i _ => n - (intOf i).toNat)
  case atStart => exact ⟨0, Nat.zero_le _, rfl, Below.refl _ _, Lib.hid rfl⟩
  case round =>
    obtain ⟨k, hk, rfl, hb, HE⟩ := hrel
    by_cases hlt : k < n
    · obtain ⟨b, off, rfl, hbl, hcell⟩ := hx (by omega)
      obtain ⟨b', off', rfl, hbl', hcell'⟩ := hx' (by omega)
      have hkl : k < L.length := by rw [HN.out]; exact hlt
      have hkm : k < M.length := by rw [HM.out]; exact hlt
      have hcx : wr.cell? ⟨b, off + k, none⟩ = some (.string (str L[k])) := (hb.cell (p := ⟨b, off + k, none⟩) hbl).trans (hcell k _ (strs_get L k hkl))
      have hcy : wr.cell? ⟨b', off' + k, none⟩ = some (.string (str M[k])) := (hb.cell (p := ⟨b', off' + k, none⟩) hbl').trans (hcell' k _ (strs_get M k hkm))
      clear hcell hcell' hx hx'
      have hki : (k : Int) < (n : Int) := by omega
      by_cases he : L[k] = M[k]
      · have HE2 := Lib.hid (take_same HE.out hkl hkm he)
        rw [← he] at hcy
        have hbb := str_same L[k]
        clear he
        go_wp2_with fail
        go_quiet (fail)
        go_wp2_with fail
        go_roundw
        case rel => exact ⟨k + 1, by omega, by go_num, below_drewN hb _, HE2⟩
        case measure => simp [intOf]; omega
      · have hbb := str_other he
        have HNE : Hid (decide (L = M) = false) := by
          show decide (L = M) = false
          simp only [decide_eq_false_iff_not]
          intro e; subst e; exact he rfl
        clear he
        go_wp2_with fail
        go_quiet (fail)
        go_wp2_with fail
        go_ret
        exact ⟨by rw [HNE.out]; rfl, TurnIn.of_below (below_drewN hb _)⟩
    · obtain rfl : k = n := by omega
      have hki : ¬ (k : Int) < (k : Int) := by omega
      have HEQ : Hid (decide (L = M) = true) := by
        show decide (L = M) = true
        have e := HE.out
        rw [List.take_of_length_le (by rw [HN.out]; exact Nat.le_refl _), List.take_of_length_le (by rw [HM.out]; exact Nat.le_refl _)] at e
        simpa using e
      go_wp2_with fail
      go_ret
      exact ⟨by rw [HEQ.out]; rfl, TurnIn.of_below hb⟩

end Go.Proofs.YtjklngheehhggaaDoor

/- MakeStripe and IsRight, the program's. -/
namespace G294
open Go Go.RowKit
/-- the two cells of a result are stored -/
theorem duo_store {E : TypeId} {w W : World} {v u : Value} {s : Strp} {lo hi R : Nat} (h : OwnT E W lo hi v u s) (hb : Below w.heap.size w W) (h1 : w.heap.size ≤ R) (h2 : R < lo) (h3 : w.heap.size ≤ lo) :
    OwnT E ((W.setCell ⟨R, 0, none⟩ v).setCell ⟨R, 1, none⟩ u) w.heap.size ((W.setCell ⟨R, 0, none⟩ v).setCell ⟨R, 1, none⟩ u).heap.size v u s ∧ TurnIn 0 0 w ((W.setCell ⟨R, 0, none⟩ v).setCell ⟨R, 1, none⟩ u) := by
  have k0 := turn_setCell W R 0 v
  have k1 := turn_setCell (W.setCell ⟨R, 0, none⟩ v) R 1 u
  have s0 := k0.size
  have s1 := k1.size
  have hh : hi ≤ W.heap.size := by obtain ⟨_, _, _, _, o⟩ := h; exact o.2.1
  exact ⟨((h.keep k0 (by omega)).keep k1 (by omega)).wider h3 (by omega) (by omega), TurnIn.of_below ((hb.setCell (p := ⟨R, 0, none⟩) h1 _).setCell (p := ⟨R, 1, none⟩) h1 _)⟩
end G294
namespace Go.Proofs.YtjklngheehhggaaDoor
open Go.RowKit G294

set_option maxRecDepth 100000 in
set_option maxHeartbeats 4000000 in
theorem makeStripe_own (v : Value) (l : List (List UInt8)) (m : Int) (w : World) (hv : Seen w v (strs l)) (ht : Tab w) (h0 : 1 < w.heap.size) : Calls Tryd.prog 47 #[v, .int .i64 m] w (RetTOk 9 w (mkR l m) (mkOk l m)) := by
  obtain ⟨A, c, hvv⟩ := hv.len
  rw [strs_length] at hvv
  subst hvv
  have a1 := turn_alloc w (.cells #[.slice none 0 0, .slice none 0 0] 66)
  have z1 := World.size_alloc w (.cells #[.slice none 0 0, .slice none 0 0] 66)
  have r0 := alloc_duo0 w (.slice none 0 0) (.slice none 0 0) 66
  have r1 := alloc_duo1 w (.slice none 0 0) (.slice none 0 0) 66
  have f0 := alloc_frz w #[.slice none 0 0, .slice none 0 0] 66 0
  have f1 := alloc_frz w #[.slice none 0 0, .slice none 0 0] 66 1
  have HV := Lib.hid (hv.touch a1)
  have HT := Lib.hid (ht.below a1.to_below h0)
  have HDEF : Hid (mkOk l m = (prmOk l.length m && textsOk l)) := Lib.hid rfl
  have HNO : Hid (mkOk l m = false → mkR l m = ([], [])) := Lib.hid mkR_no
  have hz1 : w.heap.size + 1 ≤ (w.alloc (.cells #[.slice none 0 0, .slice none 0 0] 66)).heap.size := by omega
  have HA1 := Lib.hid a1
  have HTT := Lib.hid ht
  clear hv z1 ht
  by_cases hp : prmOk l.length m = true
  · have HP := Lib.hid hp
    have b1 : 1 ≤ l.length ∧ l.length ≤ 16 := by
      simp only [prmOk, Bool.and_eq_true] at hp
      have := goodI_b hp.1; omega
    have b2 : 1 ≤ m ∧ m ≤ 4 := by
      simp only [prmOk, Bool.and_eq_true] at hp
      exact par4_b hp.2
    obtain ⟨r, rfl⟩ := Int.eq_ofNat_of_zero_le (show 0 ≤ m by omega)
    have HR : Hid (prmR l.length r = mkM r l.length prmF) := Lib.hid (by unfold prmR; rw [if_pos hp]; simp)
    have HC := Lib.hid (parityMatrix_own (l.length : Int) (r : Int) _ HT.out (by omega))
    rw [HR.out, HP.out] at HC
    by_cases htx : textsOk l = true
    · have HX := Lib.hid htx
      have HO : Hid (mkOk l r = true) := Lib.hid (by rw [HDEF.out, hp, htx]; rfl)
      have HM : Hid (mkR l r = (l, textsF r fun i => comb l.length (l.getD 0 []).length (prmF i) l)) := Lib.hid (by rw [mkR_yes HO.out, textsF_rows]; rfl)
      have HLEN := Lib.hid (texts_same htx)
      have h40 := textsOk_first htx
      have HBIG : Hid (∀ t ∈ l, t.length ≤ 1000000) := Lib.hid (fun t ht => by have := (textsOk_all.1 htx t ht).2; omega)
      have eg := enters_of Tryd.func113 (by kernel_rfl) rfl
      rw [HO.out, HM.out]
      generalize (l.getD 0 []).length = n at *
      clear hp htx
      go_enter Tryd.func47, Tryd.ntmps47
      go_wp2_with fail
      refine HC.out.mono ?_
      rintro e w2 ⟨v2, vs2, rfl, hM, k2⟩
      obtain ⟨A2, n2, c2, rfl⟩ := hM.isSlice
      have a3 := turn_alloc w2 (.cells #[.slice A2 n2 c2] 79)
      have cB := alloc_cell w2 (.slice A2 n2 c2) 79
      have l3 := alloc_lt w2 (.cells #[.slice A2 n2 c2] 79)
      have s2 := k2.size
      have k3 := turn_trans k2 a3 (by omega)
      replace r0 := cell_turn k3 r0 (by omega)
      replace r1 := cell_turn k3 r1 (by omega)
      replace f0 := frozen_turn k3 f0 (by omega)
      replace f1 := frozen_turn k3 f1 (by omega)
      have HM3 := Lib.hid (hM.keep a3 (by omega)).seen
      have HV3 := Lib.hid (HV.out.touch k3)
      have HK3 := Lib.hid (turn_trans HA1.out k3 (by omega))
      have s3 := a3.size
      clear hM k2 a3 k3 HC
      go_wp2_with fail
      refine (equallyLong_any _ _ _ HV3.out).mono ?_
      rintro e w' ⟨rfl, rfl⟩
      rw [HX.out]
      go_wp2_with fail
      generalize hw3 : (w2.alloc (.cells #[.slice A2 n2 c2] 79)) = w3 at *
      clear hw3
      have HC1 := Lib.hid (copiesOf_own _ l w3.drew HV3.out (by omega) HBIG.out)
      go_region_held3 (fun W => W.cell? ⟨w2.heap.size, 0, none⟩ = some (.slice A2 n2 c2))
        (first | exact cB | exact cB4 | exact cB5 | exact (cell_set_other _ _ _ _ (by omega)).trans ((cell_set_other _ _ _ _ (by omega)).trans cB5))
        (first
          | (go_at_call 97; refine HC1.out.mono ?_; rintro e w4 ⟨u4, rfl, o4, k4'⟩; obtain ⟨A4, n4, c4, rfl⟩ := o4.isSlice; have k4 := undrew k4'; have s4 := k4.size; have cB4 := cell_turn k4 cB l3; replace r0 := cell_turn k4 r0 (by omega); replace r1 := cell_turn k4 r1 (by omega); replace f0 := frozen_turn k4 f0 (by omega); replace f1 := frozen_turn k4 f1 (by omega); have hb4 := (turn_trans HK3.out k4 (by omega)).to_below; have HM4 := Lib.hid (HM3.out.touch k4); have HV4 := Lib.hid (HV3.out.touch k4))
          | (go_at_call 99; refine (textsBy_own r _ (.agg #[.slice A2 n2 c2, .slice A l.length c]) (fun i => comb l.length n (prmF i) l) w4 eg (fun W i hb hi => productText_own r l.length n prmF l _ _ i W (HM4.out.below hb) (HV4.out.below hb) hi rfl (by omega) (by omega) HLEN.out (by omega) ((HTT.out.below hb4 h0).below hb (by omega)) (by have := hb.size; omega)) (by omega)).mono ?_; rintro e w5 ⟨u5, rfl, o5, k5⟩; obtain ⟨A5, n5, c5, rfl⟩ := o5.isSlice; have s5 := k5.size; have cB5 := cell_turn k5 cB4 (by omega); replace r0 := cell_turn k5 r0 (by omega); replace r1 := cell_turn k5 r1 (by omega); replace f0 := frozen_turn k5 f0 (by omega); replace f1 := frozen_turn k5 f1 (by omega)))
      all_goals
        have k45 := turn_trans k4 k5 (by omega)
        have hO : OwnT 9 w5 w3.heap.size w5.heap.size (.slice A4 n4 c4) (.slice A5 n5 c5) (l, textsF r fun i => comb l.length n (prmF i) l) := ⟨w4.heap.size, by omega, by omega, o4.keep k5 (by omega), o5⟩
        have HF := Lib.hid (duo_store (R := w.heap.size) hO (turn_trans HK3.out k45 (by omega)).to_below (Nat.le_refl _) (by omega) (by omega))
        clear o4 o5 hO k4 k5 k45 k4'
        go_wp2_with fail
        refine bodyPost_ret (v := .tuple #[.agg #[.slice A4 n4 c4, .slice A5 n5 c5], .bool true]) (by simp [results, Tryd.results47, go_sem, r0, r1, f0, f1]) rfl ?_
        exact ⟨_, _, rfl, HF.out.1, HF.out.2⟩
    · have HX : Hid (textsOk l = false) := Lib.hid (by simpa using htx)
      have HO : Hid (mkOk l r = false) := Lib.hid (by rw [HDEF.out, HX.out]; simp)
      rw [HO.out, HNO.out HO.out]
      clear hp htx
      go_enter Tryd.func47, Tryd.ntmps47
      go_wp2_with fail
      refine HC.out.mono ?_
      rintro e w2 ⟨v2, vs2, rfl, hM, k2⟩
      obtain ⟨A2, n2, c2, rfl⟩ := hM.isSlice
      have a3 := turn_alloc w2 (.cells #[.slice A2 n2 c2] 79)
      have s2 := k2.size
      have k3 := turn_trans k2 a3 (by omega)
      replace r0 := cell_turn k3 r0 (by omega)
      replace r1 := cell_turn k3 r1 (by omega)
      replace f0 := frozen_turn k3 f0 (by omega)
      replace f1 := frozen_turn k3 f1 (by omega)
      have HV3 := Lib.hid (HV.out.touch k3)
      have HK3 := Lib.hid (turn_trans HA1.out k3 (by omega))
      have s3 := a3.size
      have HF := Lib.hid (duo_store (R := w.heap.size) (OwnT.nil 9 (w2.alloc (.cells #[.slice A2 n2 c2] 79)) (w.heap.size + 1) (by omega)) HK3.out.to_below (Nat.le_refl _) (by omega) (by omega))
      clear hM k2 a3 k3 HC
      go_wp2_with fail
      refine (equallyLong_any _ _ _ HV3.out).mono ?_
      rintro e w' ⟨rfl, rfl⟩
      rw [HX.out]
      go_wp2_with fail
      refine bodyPost_ret (v := .tuple #[.agg #[.slice none 0 0, .slice none 0 0], .bool false]) (by simp [results, Tryd.results47, go_sem, r0, r1, f0, f1]) rfl ?_
      exact ⟨_, _, rfl, HF.out.1, HF.out.2⟩
  · have HP : Hid (prmOk l.length m = false) := Lib.hid (by simpa using hp)
    have HO : Hid (mkOk l m = false) := Lib.hid (by rw [HDEF.out, HP.out]; simp)
    have HC := Lib.hid (parityMatrix_own (l.length : Int) m _ HT.out (by omega))
    rw [HP.out] at HC
    rw [HO.out, HNO.out HO.out]
    clear hp
    go_enter Tryd.func47, Tryd.ntmps47
    go_wp2_with fail
    refine HC.out.mono ?_
    rintro e w2 ⟨v2, vs2, rfl, hM, k2⟩
    obtain ⟨A2, n2, c2, rfl⟩ := hM.isSlice
    have a3 := turn_alloc w2 (.cells #[.slice A2 n2 c2] 79)
    have s2 := k2.size
    have k3 := turn_trans k2 a3 (by omega)
    replace r0 := cell_turn k3 r0 (by omega)
    replace r1 := cell_turn k3 r1 (by omega)
    replace f0 := frozen_turn k3 f0 (by omega)
    replace f1 := frozen_turn k3 f1 (by omega)
    have HK3 := Lib.hid (turn_trans HA1.out k3 (by omega))
    have s3 := a3.size
    have HF := Lib.hid (duo_store (R := w.heap.size) (OwnT.nil 9 (w2.alloc (.cells #[.slice A2 n2 c2] 79)) (w.heap.size + 1) (by omega)) HK3.out.to_below (Nat.le_refl _) (by omega) (by omega))
    clear hM k2 a3 k3 HC
    go_wp2_with fail
    refine bodyPost_ret (v := .tuple #[.agg #[.slice none 0 0, .slice none 0 0], .bool false]) (by simp [results, Tryd.results47, go_sem, r0, r1, f0, f1]) rfl ?_
    exact ⟨_, _, rfl, HF.out.1, HF.out.2⟩

set_option maxRecDepth 100000 in
set_option maxHeartbeats 2000000 in
theorem isRight_any (v u : Value) (s : Strp) (w : World) (hv : Seen w v (strs s.1)) (hu : Seen w u (strs s.2)) (ht : Tab w) (h0 : 1 < w.heap.size) :
    Calls Tryd.prog 43 #[.agg #[v, u]] w fun e w' => e = .returned (.tuple #[.bool (rightR s), .bool (strpOk s)]) ∧ TurnIn 0 0 w w' := by
  obtain ⟨A, c, hvv⟩ := hv.len
  obtain ⟨B, d, huu⟩ := hu.len
  rw [strs_length] at hvv huu
  subst hvv huu
  have a1 := turn_alloc w (.cells #[.slice A s.1.length c, .slice B s.2.length d] 66)
  have z1 := World.size_alloc w (.cells #[.slice A s.1.length c, .slice B s.2.length d] 66)
  have c0 := alloc_duo0 w (.slice A s.1.length c) (.slice B s.2.length d) 66
  have c1 := alloc_duo1 w (.slice A s.1.length c) (.slice B s.2.length d) 66
  have HV := Lib.hid (hv.touch a1)
  have HU := Lib.hid (hu.touch a1)
  have HT := Lib.hid (ht.below a1.to_below h0)
  have HA := Lib.hid a1
  have HG := Lib.hid (goodStripe_any _ _ s _ HV.out HU.out)
  have hz : w.heap.size + 1 ≤ (w.alloc (.cells #[.slice A s.1.length c, .slice B s.2.length d] 66)).heap.size := by omega
  clear hv hu ht z1 a1
  by_cases h : strpOk s = true
  · have HO := Lib.hid h
    have HR : Hid (rightR s = decide (s.2 = (mkS s.1 s.2.length).2)) := Lib.hid (by rw [rightR_yes h]; congr 1; exact propext ⟨Eq.symm, Eq.symm⟩)
    have HMO := Lib.hid (strp_make h)
    have HMR := Lib.hid (mkR_yes (strp_make h))
    have HLE : Hid ((mkS s.1 s.2.length).2.length = s.2.length) := Lib.hid (by simp [mkS])
    rw [HO.out] at HG ⊢
    clear h
    go_enter Tryd.func43, Tryd.ntmps43
    go_wp2_with fail
    refine HG.out.mono ?_
    rintro e w2 ⟨rfl, k2⟩
    have s2 := k2.size
    replace c0 := cell_turn k2 c0 (by omega)
    replace c1 := cell_turn k2 c1 (by omega)
    have HC := Lib.hid (makeStripe_own _ s.1 (s.2.length : Int) w2 (HV.out.touch k2) (HT.out.below k2.to_below (by omega)) (by omega))
    rw [HMO.out, HMR.out] at HC
    have HU2 := Lib.hid (HU.out.touch k2)
    have HK2 := Lib.hid (turn_trans HA.out k2 (by omega))
    clear k2 HG
    go_wp2_with fail
    refine HC.out.mono ?_
    rintro e w3 ⟨x, y, rfl, hO, k3⟩
    obtain ⟨A3, n3, e3, A4, n4, e4, rfl, rfl⟩ := hO.isSlice
    have s3 := k3.size
    have a4 := turn_alloc w3 (.cells #[.slice A3 n3 e3, .slice A4 n4 e4] 66)
    have k4 := turn_trans k3 a4 (by omega)
    have d1 := alloc_duo1 w3 (.slice A3 n3 e3) (.slice A4 n4 e4) 66
    replace c1 := cell_turn k4 c1 (by omega)
    have HY := Lib.hid (hO.seen2.touch a4)
    have HU4 := Lib.hid (HU2.out.touch k4)
    have HK4 := Lib.hid (turn_trans HK2.out k4 (by omega))
    clear hO k3 a4 k4 HC c0
    go_wp2_with fail
    refine (slicesEqualS_any _ _ s.2 _ _ HU4.out HY.out HLE.out).mono ?_
    rintro e w5 ⟨rfl, k5⟩
    go_wp2_with fail
    refine bodyPost_ret (v := .tuple #[.bool (decide (s.2 = (mkS s.1 s.2.length).2)), .bool true]) (by simp [results, Tryd.results43, go_sem]) rfl ?_
    exact ⟨by rw [HR.out], turn_trans HK4.out k5 (by omega)⟩
  · have HO : Hid (strpOk s = false) := Lib.hid (by simpa using h)
    have HR : Hid (rightR s = false) := Lib.hid (rightR_no HO.out)
    rw [HO.out] at HG ⊢
    clear h
    go_enter Tryd.func43, Tryd.ntmps43
    go_wp2_with fail
    refine HG.out.mono ?_
    rintro e w2 ⟨rfl, k2⟩
    go_wp2_with fail
    refine bodyPost_ret (v := .tuple #[.bool false, .bool false]) (by simp [results, Tryd.results43, go_sem]) rfl ?_
    exact ⟨by rw [HR.out], turn_trans HA.out k2 (by omega)⟩

end Go.Proofs.YtjklngheehhggaaDoor

/- MakeStripe and IsRight, the model's. -/
namespace G294
open Go Go.RowKit
theorem mkS_rows (l : List (List UInt8)) (m : Nat) : (mkS l m).2 = rowsT m l.length (l.getD 0 []).length prmF l := rfl
end G294
namespace Go.Proofs.YtjklngheehhggaaDoor
open Go.RowKit G294

set_option maxRecDepth 100000 in
set_option maxHeartbeats 4000000 in
theorem sMakeStripe_own (v : Value) (l : List (List UInt8)) (m : Int) (w : World) (hv : Seen w v (strs l)) : Calls Tryd.prog 161 #[v, .int .i64 m] w (RetTOk 9 w (mkR l m) (mkOk l m)) := by
  have HV0 := Lib.hid hv
  obtain ⟨A, c, hvv⟩ := hv.len
  rw [strs_length] at hvv
  subst hvv
  have a1 := turn_alloc w (.cells #[.slice none 0 0, .slice none 0 0] 66)
  have z1 := World.size_alloc w (.cells #[.slice none 0 0, .slice none 0 0] 66)
  have r0 := alloc_duo0 w (.slice none 0 0) (.slice none 0 0) 66
  have r1 := alloc_duo1 w (.slice none 0 0) (.slice none 0 0) 66
  have f0 := alloc_frz w #[.slice none 0 0, .slice none 0 0] 66 0
  have f1 := alloc_frz w #[.slice none 0 0, .slice none 0 0] 66 1
  have HV := Lib.hid (hv.touch a1)
  have HDEF : Hid (mkOk l m = ((goodI l.length && par4 m) && textsOk l)) := Lib.hid rfl
  have HNO : Hid (mkOk l m = false → mkR l m = ([], [])) := Lib.hid mkR_no
  have hz1 : w.heap.size + 1 ≤ (w.alloc (.cells #[.slice none 0 0, .slice none 0 0] 66)).heap.size := by omega
  have HF := Lib.hid (OwnT.nil 9 (w.alloc (.cells #[.slice none 0 0, .slice none 0 0] 66)) w.heap.size (by omega))
  have HA1 := Lib.hid a1
  clear hv z1 a1
  by_cases h1 : goodI l.length = true
  · have H1 := Lib.hid h1
    have b1 := goodI_b h1
    by_cases h2 : par4 m = true
    · have H2 := Lib.hid h2
      have b2 := par4_b h2
      by_cases htx : textsOk l = true
      · have HX := Lib.hid htx
        obtain ⟨r, rfl⟩ := Int.eq_ofNat_of_zero_le (show 0 ≤ m by omega)
        have HO : Hid (mkOk l r = true) := Lib.hid (by rw [HDEF.out, h1, h2, htx]; rfl)
        have HM : Hid (mkR l r = (l, rowsT r l.length (l.getD 0 []).length prmF l)) := Lib.hid (by rw [mkR_yes HO.out]; rfl)
        have HLEN := Lib.hid (texts_same htx)
        have h40 := textsOk_first htx
        rw [HO.out, HM.out]
        obtain ⟨b, off, c', hvv, hbl, hlm, hcell⟩ := seen_cells (W := w) HV0.out (by omega)
        obtain ⟨rfl, rfl⟩ : A = some ⟨b, off, none⟩ ∧ c = c' := by simpa using hvv
        have HC0 := Lib.hid hcell
        have HL0 : Hid ((strs l).length = l.length) := Lib.hid (strs_length _)
        have hll : 1 ≤ l.length ∧ l.length ≤ 16 := by omega
        have hrr : 1 ≤ r ∧ r ≤ 4 := by omega
        generalize (l.getD 0 []).length = n at *
        clear h1 h2 htx hvv hcell b1 b2
        have a2 := turn_alloc (w.alloc (.cells #[.slice none 0 0, .slice none 0 0] 66)) (.cells #[] 9)
        have z2 := World.size_alloc (w.alloc (.cells #[.slice none 0 0, .slice none 0 0] 66)) (.cells #[] 9)
        have hown0 : ((w.alloc (.cells #[.slice none 0 0, .slice none 0 0] 66)).alloc (.cells #[] 9)).ownsRow (w.alloc (.cells #[.slice none 0 0, .slice none 0 0] 66)).heap.size 9 1 (.slice (some ⟨(w.alloc (.cells #[.slice none 0 0, .slice none 0 0] 66)).heap.size, 0, none⟩) 0 0) 0 [] := World.ownsRow_lit _ #[] 0 (Nat.le_refl _) (by unfold maxLen; omega) rfl
        have HYA := Lib.hid (HC0.out _ (turn_trans HA1.out a2 (by omega)).to_below)
        have hsz2 : (w.alloc (.cells #[.slice none 0 0, .slice none 0 0] 66)).heap.size ≤ ((w.alloc (.cells #[.slice none 0 0, .slice none 0 0] 66)).alloc (.cells #[] 9)).heap.size := by omega
        have hz1b : (w.alloc (.cells #[.slice none 0 0, .slice none 0 0] 66)).heap.size = w.heap.size + 1 := World.size_alloc _ _
        rw [hz1b] at hown0 hsz2
        have HOW := Lib.hid hown0
        have HSZ := Lib.hid hsz2
        have HA2 := Lib.hid a2
        clear hown0 hsz2 hz1b z2 a2
        go_enter Tryd.func161, Tryd.ntmps161
        go_wp2_with fail
        refine (l1In_side _ _).mono ?_
        rintro e w' ⟨rfl, rfl⟩
        rw [H1.out]
        go_wp2_with fail
        refine (l1In_four _ _).mono ?_
        rintro e w' ⟨rfl, rfl⟩
        rw [H2.out]
        go_wp2_with fail
        refine (l3Texts_any _ _ _ HV.out).mono ?_
        rintro e w' ⟨rfl, rfl⟩
        rw [HX.out]
        go_wp2_with (at_builtin; refine wpList_appendN rfl _ _ _ rfl (w.heap.size + 1) 9 _ _ Tryd.underlying23 infoStr rfl _ 0 [] rfl HOW.out ⟨b, off, none⟩ l.length c (strs l) rfl HL0.out HYA.out (strs_oneC _) ?c1 ?c2 ?c3 ?_)
        case c1 => omega
        case c2 => omega
        case c3 => exact HSZ.out
        intro v2 w2 ho2 hg2 hv2
        have k2 : TurnIn 0 0 (w.alloc (.cells #[.slice none 0 0, .slice none 0 0] 66)) w2 := turn_trans' HA2.out hg2 (fun g e => by simp [Value.ownBlock] at e; rw [World.size_alloc]; omega)
        have s2 := k2.size
        obtain ⟨A2, n2, c2, rfl⟩ := own_isSlice ho2
        have hO2 : OwnStrs 9 w2 (w.heap.size + 1) w2.heap.size (.slice A2 n2 c2) l := ⟨by simpa using ho2, Nat.le_refl _, fun g e => (ho2.lt g e).2⟩
        have HO2 := Lib.hid hO2
        replace r0 := cell_turn k2 r0 (by omega)
        replace r1 := cell_turn k2 r1 (by omega)
        replace f0 := frozen_turn k2 f0 (by omega)
        replace f1 := frozen_turn k2 f1 (by omega)
        have HV2 := Lib.hid (HV.out.touch k2)
        have HK2 := Lib.hid (turn_trans HA1.out k2 (by omega))
        have hz2 : w.heap.size + 1 ≤ w2.heap.size := by omega
        clear ho2 hg2 hv2 hO2 k2 s2
        go_wp2_with fail
        refine (l6Matrix_own r l.length _ hrr.1 hll.1 (by omega) hll.2).mono ?_
        rintro e w3 ⟨v3, vs3, rfl, hM, k3⟩
        obtain ⟨A3, n3, c3, rfl⟩ := hM.isSlice
        have s3 := k3.size
        replace r0 := cell_turn k3 r0 (by omega)
        replace r1 := cell_turn k3 r1 (by omega)
        replace f0 := frozen_turn k3 f0 (by omega)
        replace f1 := frozen_turn k3 f1 (by omega)
        have HM3 := Lib.hid hM.seen
        have HV3 := Lib.hid (HV2.out.touch k3)
        have HK3 := Lib.hid k3
        clear hM k3
        go_wp2_with fail
        refine (l3Rows_own r l.length n prmF l _ _ _ HM3.out HV3.out rfl hll.1 (by omega) (by omega) HLEN.out (by omega)).mono ?_
        rintro e w4 ⟨v4, rfl, o4, k4⟩
        obtain ⟨A4, n4, c4, rfl⟩ := o4.isSlice
        have s4 := k4.size
        replace r0 := cell_turn k4 r0 (by omega)
        replace r1 := cell_turn k4 r1 (by omega)
        replace f0 := frozen_turn k4 f0 (by omega)
        replace f1 := frozen_turn k4 f1 (by omega)
        have k34 := turn_trans HK3.out k4 (by omega)
        have hO : OwnT 9 w4 (w.heap.size + 1) w4.heap.size (.slice A2 n2 c2) (.slice A4 n4 c4) (l, rowsT r l.length n prmF l) := ⟨w2.heap.size, hz2, by omega, HO2.out.keep k34 (by omega), o4.widerS s3 (Nat.le_refl _) (Nat.le_refl _)⟩
        have HFF := Lib.hid (duo_store (R := w.heap.size) hO (turn_trans HK2.out k34 (by omega)).to_below (Nat.le_refl _) (by omega) (by omega))
        clear o4 hO k4 k34
        go_wp2_with fail
        refine bodyPost_ret (v := .tuple #[.agg #[.slice A2 n2 c2, .slice A4 n4 c4], .bool true]) (by simp [results, Tryd.results161, go_sem, r0, r1, f0, f1]) rfl ?_
        exact ⟨_, _, rfl, HFF.out.1, HFF.out.2⟩
      · have HX : Hid (textsOk l = false) := Lib.hid (by simpa using htx)
        have HO : Hid (mkOk l m = false) := Lib.hid (by rw [HDEF.out, HX.out]; simp)
        rw [HO.out, HNO.out HO.out]
        clear h1 h2 htx
        go_enter Tryd.func161, Tryd.ntmps161
        go_wp2_with fail
        refine (l1In_side _ _).mono ?_
        rintro e w' ⟨rfl, rfl⟩
        rw [H1.out]
        go_wp2_with fail
        refine (l1In_four _ _).mono ?_
        rintro e w' ⟨rfl, rfl⟩
        rw [H2.out]
        go_wp2_with fail
        refine (l3Texts_any _ _ _ HV.out).mono ?_
        rintro e w' ⟨rfl, rfl⟩
        rw [HX.out]
        go_wp2_with fail
        refine bodyPost_ret (v := .tuple #[.agg #[.slice none 0 0, .slice none 0 0], .bool false]) (by simp [results, Tryd.results161, go_sem, r0, r1, f0, f1]) rfl ?_
        exact ⟨_, _, rfl, HF.out, HA1.out⟩
    · have H2 : Hid (par4 m = false) := Lib.hid (by simpa using h2)
      have HO : Hid (mkOk l m = false) := Lib.hid (by rw [HDEF.out, H2.out]; simp)
      rw [HO.out, HNO.out HO.out]
      clear h1 h2
      go_enter Tryd.func161, Tryd.ntmps161
      go_wp2_with fail
      refine (l1In_side _ _).mono ?_
      rintro e w' ⟨rfl, rfl⟩
      rw [H1.out]
      go_wp2_with fail
      refine (l1In_four _ _).mono ?_
      rintro e w' ⟨rfl, rfl⟩
      rw [H2.out]
      go_wp2_with fail
      refine bodyPost_ret (v := .tuple #[.agg #[.slice none 0 0, .slice none 0 0], .bool false]) (by simp [results, Tryd.results161, go_sem, r0, r1, f0, f1]) rfl ?_
      exact ⟨_, _, rfl, HF.out, HA1.out⟩
  · have H1 : Hid (goodI l.length = false) := Lib.hid (by simpa using h1)
    have HO : Hid (mkOk l m = false) := Lib.hid (by rw [HDEF.out, H1.out]; simp)
    rw [HO.out, HNO.out HO.out]
    clear h1
    go_enter Tryd.func161, Tryd.ntmps161
    go_wp2_with fail
    refine (l1In_side _ _).mono ?_
    rintro e w' ⟨rfl, rfl⟩
    rw [H1.out]
    go_wp2_with fail
    refine bodyPost_ret (v := .tuple #[.agg #[.slice none 0 0, .slice none 0 0], .bool false]) (by simp [results, Tryd.results161, go_sem, r0, r1, f0, f1]) rfl ?_
    exact ⟨_, _, rfl, HF.out, HA1.out⟩

set_option maxRecDepth 100000 in
set_option maxHeartbeats 4000000 in
theorem sIsRight_any (v u : Value) (s : Strp) (w : World) (hv : Seen w v (strs s.1)) (hu : Seen w u (strs s.2)) :
    Calls Tryd.prog 44 #[.agg #[v, u]] w fun e w' => e = .returned (.tuple #[.bool (rightR s), .bool (strpOk s)]) ∧ TurnIn 0 0 w w' := by
  obtain ⟨A, c, hvv⟩ := hv.len
  obtain ⟨B, d, huu⟩ := hu.len
  rw [strs_length] at hvv huu
  subst hvv huu
  have a1 := turn_alloc w (.cells #[.slice A s.1.length c, .slice B s.2.length d] 66)
  have l1 := alloc_lt w (.cells #[.slice A s.1.length c, .slice B s.2.length d] 66)
  have c0 := alloc_duo0 w (.slice A s.1.length c) (.slice B s.2.length d) 66
  have c1 := alloc_duo1 w (.slice A s.1.length c) (.slice B s.2.length d) 66
  have HV := Lib.hid (hv.touch a1)
  have HU := Lib.hid (hu.touch a1)
  have HA := Lib.hid a1
  have HG := Lib.hid (sGoodStripe_any _ _ s _ HV.out HU.out)
  clear hv hu a1
  by_cases h : strpOk s = true
  · have HO := Lib.hid h
    have HR : Hid (rightR s = decide (rowsT s.2.length s.1.length (s.1.getD 0 []).length prmF s.1 = s.2)) := Lib.hid (by rw [rightR_yes h]; rfl)
    have HLEN := Lib.hid (texts_same (strpOk_first h))
    have h40 := (strpOk_len h).2.2
    obtain ⟨b1, b2, _⟩ := strpOk_b h
    have HLE : Hid (s.2.length = (rowsT s.2.length s.1.length (s.1.getD 0 []).length prmF s.1).length) := Lib.hid (by simp)
    rw [HO.out] at HG ⊢
    rw [HR.out]
    generalize (s.1.getD 0 []).length = n at *
    clear h HR
    go_enter Tryd.func44, Tryd.ntmps44
    go_wp2_with fail
    refine HG.out.mono ?_
    rintro e w2 ⟨rfl, k2⟩
    have s2 := k2.size
    replace c0 := cell_turn k2 c0 l1
    replace c1 := cell_turn k2 c1 l1
    have HV2 := Lib.hid (HV.out.touch k2)
    have HU2 := Lib.hid (HU.out.touch k2)
    have HK2 := Lib.hid (turn_trans HA.out k2 (by omega))
    have l2 := Nat.lt_of_lt_of_le l1 s2
    clear k2 HG s2 l1
    have hS0 : Below w2.heap.size w2 w2.drew ∧ w2.drew.cell? ⟨w.heap.size, 0, none⟩ = some (.slice A s.1.length c) ∧ w2.drew.cell? ⟨w.heap.size, 1, none⟩ = some (.slice B s.2.length d) := ⟨(Below.refl _ _).drew, c0, c1⟩
    have HS : Hid (∀ W, Below w2.heap.size w2 W → DuoAt w2 w.heap.size (.slice A s.1.length c) (.slice B s.2.length d) W) := Lib.hid (fun W hb => duo_below c0 c1 l2 hb)
    go_wp2_with fail
    go_region_held3 (fun W => Below w2.heap.size w2 W ∧ W.cell? ⟨w.heap.size, 0, none⟩ = some (.slice A s.1.length c) ∧ W.cell? ⟨w.heap.size, 1, none⟩ = some (.slice B s.2.length d))
      (first | exact hS0 | exact hS3 | exact hS4 | exact hS5)
      (first
        | (go_at_call 109; refine (l6Matrix_own s.2.length s.1.length _ b2.1 b1.1 (by omega) b1.2).mono ?_; rintro e w3 ⟨v3, vs3, rfl, hM, k3'⟩; have k3 := undrew k3'; obtain ⟨A3, n3, c3, rfl⟩ := hM.isSlice; have hS3 := HS.out _ k3.to_below; have HM3 := Lib.hid hM.seen)
        | (go_at_call 93; refine (l3Rows_own s.2.length s.1.length n prmF s.1 _ _ _ HM3.out (HV2.out.below hS3.1) rfl b1.1 (by omega) (by omega) HLEN.out (by omega)).mono ?_; rintro e w4 ⟨v4, rfl, o4, k4⟩; obtain ⟨A4, n4, c4, rfl⟩ := o4.isSlice; have hS4 := HS.out _ (turn_trans k3 k4 (by omega)).to_below; have HO4 := Lib.hid o4.seen)
        | (go_at_call 108; refine (l6Same_any _ _ _ s.2 _ HO4.out (HU2.out.below hS4.1) HLE.out).mono ?_; rintro e w5 ⟨rfl, k5⟩; have hS5 := HS.out _ (k5.base hS4.1 hS4.1.size (by omega))))
    all_goals
      go_wp2_with fail
      refine bodyPost_ret (v := .tuple #[.bool (decide (rowsT s.2.length s.1.length n prmF s.1 = s.2)), .bool true]) (by simp [results, Tryd.results44, go_sem]) rfl ?_
      exact ⟨rfl, turn_trans HK2.out (TurnIn.of_below hS5.1) (by omega)⟩
  · have HO : Hid (strpOk s = false) := Lib.hid (by simpa using h)
    have HR : Hid (rightR s = false) := Lib.hid (rightR_no HO.out)
    rw [HO.out] at HG ⊢
    rw [HR.out]
    clear h
    go_enter Tryd.func44, Tryd.ntmps44
    go_wp2_with fail
    refine HG.out.mono ?_
    rintro e w2 ⟨rfl, k2⟩
    go_wp2_with fail
    refine bodyPost_ret (v := .tuple #[.bool false, .bool false]) (by simp [results, Tryd.results44, go_sem]) rfl ?_
    exact ⟨rfl, turn_trans HA.out k2 (by omega)⟩

end Go.Proofs.YtjklngheehhggaaDoor
