/- Joined texts: Strp1, Strp2. -/
import Derived.Test.YtbopocpmodpfcaaBd09
import Derived.Deep.QuietTactic
import Derived.BigQuiet
import Derived.Deep.RegionHeld3
set_option linter.unusedSimpArgs false
set_option linter.unusedVariables false
/- GoodStripe: the program's. -/
namespace Go.Proofs.Ytbopocpmodpfcaa
open Go.RowKit G294

set_option maxRecDepth 100000 in
set_option maxHeartbeats 2000000 in
theorem goodStripe_any (v u : Value) (s : Strp) (w : World) (hv : Seen w v (strs s.1)) (hu : Seen w u (strs s.2)) : Calls Try.prog 7 #[.agg #[v, u]] w (RetBool w (strpOk s)) := by
  obtain ⟨A, c, hvv⟩ := hv.len
  obtain ⟨B, d, huu⟩ := hu.len
  rw [strs_length] at hvv huu
  subst hvv huu
  have a1 := turn_alloc w (.cells #[.slice A s.1.length c, .slice B s.2.length d] 27)
  have l1 := alloc_lt w (.cells #[.slice A s.1.length c, .slice B s.2.length d] 27)
  have c0 := alloc_duo0 w (.slice A s.1.length c) (.slice B s.2.length d) 27
  have c1 := alloc_duo1 w (.slice A s.1.length c) (.slice B s.2.length d) 27
  have HV := Lib.hid hv
  have HU := Lib.hid hu
  have HDEF : Hid (strpOk s = (goodI s.1.length && (par4 s.2.length && textsOk (s.1 ++ s.2)))) := Lib.hid rfl
  clear hv hu
  by_cases h1 : goodI s.1.length = true
  · have H1 := Lib.hid h1
    have b1 := goodI_b h1
    by_cases h2 : par4 s.2.length = true
    · have H2 := Lib.hid h2
      have b2 := par4_b h2
      have HO : Hid (strpOk s = textsOk (s.1 ++ s.2)) := Lib.hid (by rw [HDEF.out, h1, h2]; rfl)
      clear h1 h2
      have a2 := turn_alloc (w.alloc (.cells #[.slice A s.1.length c, .slice B s.2.length d] 27)) (.cells #[.slice A s.1.length c, .slice B s.2.length d] 22)
      have d0 := alloc_duo0 (w.alloc (.cells #[.slice A s.1.length c, .slice B s.2.length d] 27)) (.slice A s.1.length c) (.slice B s.2.length d) 22
      have d1 := alloc_duo1 (w.alloc (.cells #[.slice A s.1.length c, .slice B s.2.length d] 27)) (.slice A s.1.length c) (.slice B s.2.length d) 22
      have l2 := alloc_lt (w.alloc (.cells #[.slice A s.1.length c, .slice B s.2.length d] 27)) (.cells #[.slice A s.1.length c, .slice B s.2.length d] 22)
      have k2 := turn_trans a1 a2 (by omega)
      have HC := Lib.hid (concat_own _ _ s.1 s.2 _ _ l2 d0 d1 (HV.out.touch k2) (HU.out.touch k2) (by omega) (by omega) (by omega) (by omega))
      have HK := Lib.hid k2
      rw [World.size_alloc] at HC
      clear a2 d0 d1 l2 k2 b1 b2
      go_enter Try.func7, Try.ntmps7
      go_wp2_with fail
      refine (goodSide_any _ _).mono ?_
      rintro e w' ⟨rfl, rfl⟩
      rw [H1.out]
      go_wp2_with fail
      refine (goodStripeParity_any _ _).mono ?_
      rintro e w' ⟨rfl, rfl⟩
      rw [H2.out]
      go_wp2_with fail
      refine HC.out.mono ?_
      rintro e w3 ⟨x, rfl, hx, k3⟩
      have HX := Lib.hid hx.seen
      have HK3 := Lib.hid (turn_trans HK.out k3 (by omega))
      clear hx k3
      go_wp2_with fail
      refine (equallyLong_any _ _ _ HX.out).mono ?_
      rintro e w' ⟨rfl, rfl⟩
      go_wp2_with fail
      go_ret
      exact ⟨by rw [HO.out]; rfl, HK3.out⟩
    · have H2 : Hid (par4 s.2.length = false) := Lib.hid (by simpa using h2)
      have HO : Hid (strpOk s = false) := Lib.hid (by rw [HDEF.out, H2.out]; simp)
      clear h1 h2
      go_enter Try.func7, Try.ntmps7
      go_wp2_with fail
      refine (goodSide_any _ _).mono ?_
      rintro e w' ⟨rfl, rfl⟩
      rw [H1.out]
      go_wp2_with fail
      refine (goodStripeParity_any _ _).mono ?_
      rintro e w' ⟨rfl, rfl⟩
      rw [H2.out]
      go_wp2_with fail
      go_ret
      exact ⟨by rw [HO.out]; rfl, a1⟩
  · have H1 : Hid (goodI s.1.length = false) := Lib.hid (by simpa using h1)
    have HO : Hid (strpOk s = false) := Lib.hid (by rw [HDEF.out, H1.out]; simp)
    clear h1
    go_enter Try.func7, Try.ntmps7
    go_wp2_with fail
    refine (goodSide_any _ _).mono ?_
    rintro e w' ⟨rfl, rfl⟩
    rw [H1.out]
    go_wp2_with fail
    go_ret
    exact ⟨by rw [HO.out]; rfl, a1⟩

end Go.Proofs.Ytbopocpmodpfcaa

/- GoodStripe: the model's. -/
namespace G294
open Go Go.RowKit
/-- append(s, x...) of a row of one-cell elements, onto a row of the call's own, as one step of a region, guarded or not -/
theorem step_appendG {P : Program} {w : World} {ops : Array Oper} {o : Oper} {a : Act} {K : Act → World → Prop} {Q : Exit → Act → World → Prop} {E : Prop} (hw : Region.wanted o (yielded ops a.tmps) = true) (s x : Operand) (t : TypeId)
    (ho : o.op = .call { callee := .builtin .append, args := #[s, x], argTypes := #[t, t] })
    (base : Nat) (e : TypeId) (z : Value) (bytes : Nat) (ht : P.underlying t = some (.slice e)) (hinfo : (P.info? e).map (fun i => (i.zero, i.size, i.bytes)) = some (some z, 1, bytes)) (hzs : z.cells.size = 1)
    (v : Value) (n : Nat) (xs : List Value) (hs : a.eval s = v) (hown : w.ownsRow base e 1 v n xs)
    (A : Addr) (m c : Nat) (ys : List Value) (hx : a.eval x = .slice (some A) m c) (hl : ys.length = m) (hc : ∀ j y, ys[j]? = some y → w.cell? (A.add j) = some y) (h1 : ∀ y, y ∈ ys → y.oneCell' = true)
    (hn : n + m ≤ 1000000000) (hby : bytes ≤ 1000) (hbase : base ≤ w.heap.size)
    (h : ∀ v' w', w'.ownsRow base e 1 v' (n + m) (xs ++ ys) → w.grownBy w' v.ownBlock → (v'.ownBlock = v.ownBlock ∨ v'.ownBlock = some w.heap.size) → K (a.put o.dst v') w') :
    if Region.wanted o (yielded ops a.tmps) = true then Oper.wp P o a w K Q else E := by
  rw [if_pos hw]
  obtain ⟨i, hi, hz, hsz, hbs⟩ := info_parts hinfo
  obtain ⟨v', w', hrun, r1, r2, _, r4⟩ := run_append_own_at (P := P) w base t o.type e i z 1 bytes ht hi hz hsz hbs hzs (by omega) v n xs hown A m c ys (by omega) hc h1 (by unfold maxLen; omega) (by
    have : (n + m) * bytes ≤ 1000000000 * 1000 := Nat.mul_le_mul (by omega) hby
    omega) hbase
  unfold Oper.wp execOp
  simp only [ho, resolve, invoke, builtin, Sem.run_bind, Sem.run_pure, Result.andThen_ok, List.map_toArray, List.map_cons, List.map_nil, hs, hx, hrun]
  exact h v' w' r1 r2 r4
/-- the two cells of a box stand above -/
def DuoAt (w1 : World) (B : Nat) (x y : Value) (W : World) : Prop := Below w1.heap.size w1 W ∧ W.cell? ⟨B, 0, none⟩ = some x ∧ W.cell? ⟨B, 1, none⟩ = some y
theorem duo_below {w1 W : World} {B : Nat} {x y : Value} (c0 : w1.cell? ⟨B, 0, none⟩ = some x) (c1 : w1.cell? ⟨B, 1, none⟩ = some y) (hB : B < w1.heap.size) (hb : Below w1.heap.size w1 W) : DuoAt w1 B x y W :=
  ⟨hb, (hb.cell (p := ⟨B, 0, none⟩) hB).trans c0, (hb.cell (p := ⟨B, 1, none⟩) hB).trans c1⟩
theorem seen_cells {w W : World} {v : Value} {L : List (List UInt8)} (h : Seen w v (strs L)) (h1 : 1 ≤ L.length) : ∃ b off c, v = .slice (some ⟨b, off, none⟩) L.length c ∧ b < w.heap.size ∧ L.length ≤ 9223372036854775807 ∧ ∀ W, Below w.heap.size w W → ∀ j y, (strs L)[j]? = some y → W.cell? ((⟨b, off, none⟩ : Addr).add j) = some y := by
  obtain ⟨A, c, rfl, hlc, hcm, hx⟩ := h
  rw [strs_length] at hlc hx
  obtain ⟨b, off, rfl, hbl, hcell⟩ := hx (by omega)
  unfold maxLen at hcm
  refine ⟨b, off, c, by rw [strs_length], hbl, by omega, fun W hb j y hj => ?_⟩
  rw [Addr.add_lit]
  exact (hb.cell (p := ⟨b, off + j, none⟩) hbl).trans (hcell j y hj)
end G294
namespace Go.Proofs.Ytbopocpmodpfcaa
open Go.RowKit G294

set_option maxRecDepth 100000 in
set_option maxHeartbeats 4000000 in
theorem sGoodStripe_any (v u : Value) (s : Strp) (w : World) (hv : Seen w v (strs s.1)) (hu : Seen w u (strs s.2)) : Calls Try.prog 5 #[.agg #[v, u]] w (RetBool w (strpOk s)) := by
  have HV := Lib.hid hv
  have HU := Lib.hid hu
  obtain ⟨A, c, hvv⟩ := hv.len
  obtain ⟨B, d, huu⟩ := hu.len
  rw [strs_length] at hvv huu
  subst hvv huu
  have HDEF : Hid (strpOk s = (goodI s.1.length && (par4 s.2.length && textsOk (s.1 ++ s.2)))) := Lib.hid rfl
  clear hv hu
  by_cases h1 : goodI s.1.length = true
  · have H1 : Hid (∀ W, Calls Try.prog 10 #[.int .i64 (s.1.length : Int), .int .i64 1, .int .i64 16] W fun e w' => e = .returned (.bool true) ∧ W = w') := Lib.hid (fun W => h1 ▸ l1In_side _ W)
    have b1 := goodI_b h1
    by_cases h2 : par4 s.2.length = true
    · have H2 : Hid (∀ W, Calls Try.prog 10 #[.int .i64 (s.2.length : Int), .int .i64 1, .int .i64 4] W fun e w' => e = .returned (.bool true) ∧ W = w') := Lib.hid (fun W => h2 ▸ l1In_four _ W)
      have b2 := par4_b h2
      have HO : Hid (strpOk s = textsOk (s.1 ++ s.2)) := Lib.hid (by rw [HDEF.out, h1, h2]; rfl)
      clear h1 h2
      obtain ⟨b, off, c', hvv, hbl, hlm, hcell⟩ := seen_cells (W := w) HV.out (by omega)
      obtain ⟨b', off', d', huu, hbl', hlm', hcell'⟩ := seen_cells (W := w) HU.out (by omega)
      obtain ⟨rfl, rfl⟩ : A = some ⟨b, off, none⟩ ∧ c = c' := by simpa using hvv
      obtain ⟨rfl, rfl⟩ : B = some ⟨b', off', none⟩ ∧ d = d' := by simpa using huu
      clear hvv huu
      have HC0 := Lib.hid hcell
      have HC1 := Lib.hid hcell'
      have HL0 : Hid ((strs s.1).length = s.1.length) := Lib.hid (strs_length _)
      have HL1 : Hid ((strs s.2).length = s.2.length) := Lib.hid (strs_length _)
      have HLL : Hid ((s.1 ++ s.2).length = s.1.length + s.2.length) := Lib.hid (by simp)
      have HA : Hid (strs (s.1 ++ s.2) = strs s.1 ++ strs s.2) := Lib.hid (strs_append _ _)
      have bb1 : 1 ≤ s.1.length ∧ s.1.length ≤ 16 := by omega
      have bb2 : 1 ≤ s.2.length ∧ s.2.length ≤ 4 := by omega
      clear hcell hcell' b1 b2 HDEF HV HU
      generalize s.1.length = n at *
      generalize s.2.length = m at *
      have a1 := turn_alloc w (.cells #[.slice (some ⟨b, off, none⟩) n c, .slice (some ⟨b', off', none⟩) m d] 27)
      have l1 := alloc_lt w (.cells #[.slice (some ⟨b, off, none⟩) n c, .slice (some ⟨b', off', none⟩) m d] 27)
      have c0 := alloc_duo0 w (.slice (some ⟨b, off, none⟩) n c) (.slice (some ⟨b', off', none⟩) m d) 27
      have c1 := alloc_duo1 w (.slice (some ⟨b, off, none⟩) n c) (.slice (some ⟨b', off', none⟩) m d) 27
      go_enter Try.func5, Try.ntmps5
      go_wp2_with fail
      generalize (w.alloc (.cells #[.slice (some ⟨b, off, none⟩) n c, .slice (some ⟨b', off', none⟩) m d] 27)) = w1 at *
      have HW : Hid (∀ W, Below w1.heap.size w1 W → Below w.heap.size w W) := Lib.hid (fun W h => (TurnIn.of_below h).base a1.to_below a1.size (by omega))
      have HS : Hid (∀ W, Below w1.heap.size w1 W → DuoAt w1 w.heap.size (.slice (some ⟨b, off, none⟩) n c) (.slice (some ⟨b', off', none⟩) m d) W) := Lib.hid (fun W h => duo_below c0 c1 l1 h)
      have hS0 : Below w1.heap.size w1 w1.drew ∧ w1.drew.cell? ⟨w.heap.size, 0, none⟩ = some (.slice (some ⟨b, off, none⟩) n c) ∧ w1.drew.cell? ⟨w.heap.size, 1, none⟩ = some (.slice (some ⟨b', off', none⟩) m d) := ⟨(Below.refl _ _).drew, c0, c1⟩
      have hbA : Below w1.heap.size w1 (w1.alloc (.cells #[] 9)).drew := ((Below.refl _ _).alloc (Nat.le_refl _) _).drew
      have hSA : Below w1.heap.size w1 (w1.alloc (.cells #[] 9)).drew ∧ (w1.alloc (.cells #[] 9)).drew.cell? ⟨w.heap.size, 0, none⟩ = some (.slice (some ⟨b, off, none⟩) n c) ∧ (w1.alloc (.cells #[] 9)).drew.cell? ⟨w.heap.size, 1, none⟩ = some (.slice (some ⟨b', off', none⟩) m d) := HS.out _ hbA
      have hown0 : (w1.alloc (.cells #[] 9)).drew.ownsRow w1.heap.size 9 1 (.slice (some ⟨w1.heap.size, 0, none⟩) 0 0) 0 [] := (World.ownsRow_lit w1 #[] 0 (Nat.le_refl _) (by unfold maxLen; omega) rfl).drew
      have HYA := Lib.hid (HC0.out _ (HW.out _ hbA))
      go_region_held3 (fun W => Below w1.heap.size w1 W ∧ W.cell? ⟨w.heap.size, 0, none⟩ = some (.slice (some ⟨b, off, none⟩) n c) ∧ W.cell? ⟨w.heap.size, 1, none⟩ = some (.slice (some ⟨b', off', none⟩) m d))
        (first | exact hS0 | exact hSA | exact hS1 | exact hS2 | assumption)
        (first
          | (go_at_call 10; (first | (with_reducible refine (H1.out _).mono ?_; rintro e w' ⟨rfl, rfl⟩) | (with_reducible refine (H2.out _).mono ?_; rintro e w' ⟨rfl, rfl⟩)))
          | (refine step_appendG (by rfl) _ _ _ (by rfl) w1.heap.size 9 _ _ Try.underlying22 infoStr rfl _ 0 [] (by rfl) hown0 ⟨b, off, none⟩ n c (strs s.1) (by rfl) HL0.out HYA.out (strs_oneC _) (by omega) (by omega) (by simp) ?_; intro u1 w2 hown1 hg1 hv1; obtain ⟨C1, m1, d1, rfl⟩ := own_isSlice hown1; have hb2 : Below w1.heap.size w1 w2 := hbA.grown hg1 hbA.size (fun g e => by simp [Value.ownBlock] at e; omega); have hS1 := HS.out _ hb2; have HYB := Lib.hid (HC1.out _ (HW.out _ hb2)); have hs2 := hb2.size)
          | (refine step_appendG (by rfl) _ _ _ (by rfl) w1.heap.size 9 _ _ Try.underlying22 infoStr rfl _ (0 + n) ([] ++ strs s.1) (by rfl) hown1 ⟨b', off', none⟩ m d (strs s.2) (by rfl) HL1.out HYB.out (strs_oneC _) (by omega) (by omega) hs2 ?_; intro u2 w3 hown2 hg2 hv2; have hb3 : Below w1.heap.size w1 w3 := hb2.grown hg2 hs2 (fun g e => (hown1.lt g e).1); have hS2 := HS.out _ hb3; have HX : Hid (Seen w3 u2 (strs (s.1 ++ s.2))) := Lib.hid (Seen.of_own (by rw [HA.out]; simpa using hown2)); obtain ⟨C2, m2, d2, rfl⟩ := own_isSlice hown2)
          | (go_at_call 11; refine (l3Texts_any _ _ _ HX.out).mono ?_; rintro e w' ⟨rfl, rfl⟩))
      all_goals
        go_wp2_with fail
        go_ret
        exact ⟨by rw [HO.out]; rfl, TurnIn.of_below (HW.out _ hS2.1)⟩
    · have H2 : Hid (∀ W, Calls Try.prog 10 #[.int .i64 (s.2.length : Int), .int .i64 1, .int .i64 4] W fun e w' => e = .returned (.bool false) ∧ W = w') := Lib.hid (fun W => (show par4 s.2.length = false by simpa using h2) ▸ l1In_four _ W)
      have HO : Hid (strpOk s = false) := Lib.hid (by rw [HDEF.out, (show par4 s.2.length = false by simpa using h2)]; simp)
      clear h1 h2 HDEF HV HU b1
      generalize s.1.length = n at *
      generalize s.2.length = m at *
      have a1 := turn_alloc w (.cells #[.slice A n c, .slice B m d] 27)
      have c0 := alloc_duo0 w (.slice A n c) (.slice B m d) 27
      have c1 := alloc_duo1 w (.slice A n c) (.slice B m d) 27
      go_enter Try.func5, Try.ntmps5
      go_wp2_with fail
      go_quiet ((go_at_call 10; first | with_reducible exact quietly (H1.out _) | exact quietly (H2.out _)))
      go_wp2_with fail
      go_ret
      exact ⟨by rw [HO.out]; rfl, TurnIn.of_below (below_drewN a1.to_below _)⟩
  · have H1 : Hid (∀ W, Calls Try.prog 10 #[.int .i64 (s.1.length : Int), .int .i64 1, .int .i64 16] W fun e w' => e = .returned (.bool false) ∧ W = w') := Lib.hid (fun W => (show goodI s.1.length = false by simpa using h1) ▸ l1In_side _ W)
    have HO : Hid (strpOk s = false) := Lib.hid (by rw [HDEF.out, (show goodI s.1.length = false by simpa using h1)]; simp)
    clear h1 HDEF HV HU
    generalize s.1.length = n at *
    generalize s.2.length = m at *
    have a1 := turn_alloc w (.cells #[.slice A n c, .slice B m d] 27)
    have c0 := alloc_duo0 w (.slice A n c) (.slice B m d) 27
    have c1 := alloc_duo1 w (.slice A n c) (.slice B m d) 27
    go_enter Try.func5, Try.ntmps5
    go_wp2_with fail
    go_quiet ((go_at_call 10; exact quietly (H1.out _)))
    go_wp2_with fail
    go_ret
    exact ⟨by rw [HO.out]; rfl, TurnIn.of_below (below_drewN a1.to_below _)⟩

end Go.Proofs.Ytbopocpmodpfcaa
