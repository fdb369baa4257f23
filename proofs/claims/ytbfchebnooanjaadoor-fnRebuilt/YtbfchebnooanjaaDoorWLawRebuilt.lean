/- The walk of FnRebuilt. -/
import Derived.Test.YtbfchebnooanjaaDoorRows
import Derived.Test.YtbfchebnooanjaaDoorBd00
import Derived.Test.YtbfchebnooanjaaDoorBd21
import Derived.Test.YtbfchebnooanjaaDoorBd12
import Derived.Test.YtbfchebnooanjaaDoorBd22
import Derived.Test.YtbfchebnooanjaaDoorBd23
import Derived.Test.YtbfchebnooanjaaDoorBd24
import Derived.Test.YtbfchebnooanjaaDoorBd18
import Derived.Laws.IdiomCopy
set_option linter.unusedSimpArgs false
set_option linter.unusedVariables false
namespace G294
open Go Go.RowKit
theorem shs_cells {w : World} {l : List Sh} {b off : Nat} (h : ∀ i s, l[i]? = some s → w.cell? ⟨b, off + i * 2, none⟩ = some (.int .i64 s.1) ∧ w.cell? ⟨b, off + i * 2 + 1, none⟩ = some (.string (str s.2))) : ∀ j u, (shs l)[j]? = some u → w.cell? ((⟨b, off, none⟩ : Addr).add j) = some u := fun j u hu => by
  have hj : j < (shs l).length := (List.getElem?_eq_some_iff.1 hu).1
  rw [shs_length] at hj
  rw [Addr.add_lit]
  rcases Nat.mod_two_eq_zero_or_one j with h2 | h2
  · obtain ⟨i, rfl⟩ : ∃ i, j = i * 2 := ⟨j / 2, by omega⟩
    have hi : i < l.length := by omega
    rw [shs_no l i hi] at hu
    cases hu
    exact (h i _ (List.getElem?_eq_getElem hi)).1
  · obtain ⟨i, rfl⟩ : ∃ i, j = i * 2 + 1 := ⟨j / 2, by omega⟩
    have hi : i < l.length := by omega
    rw [shs_data l i hi] at hu
    cases hu
    exact (h i _ (List.getElem?_eq_getElem hi)).2
theorem wpList_appendMany {P : Program} {w : World} {ops : Array Oper} {rest : List Oper} {o : Oper} {a : Act} {Q : Exit → Act → World → Prop} (hgd : o.guard = none) (s x : Operand) (t : TypeId)
    (ho : o.op = .call { callee := .builtin .append, args := #[s, x], argTypes := #[t, t] })
    (base : Nat) (e : TypeId) (z : Value) (size bytes : Nat) (ht : P.underlying t = some (.slice e)) (hinfo : (P.info? e).map (fun i => (i.zero, i.size, i.bytes)) = some (some z, size, bytes)) (hzs : z.cells.size = size) (hsz : 0 < size)
    (v : Value) (n : Nat) (xs : List Value) (hs : a.eval s = v) (hown : w.ownsRow base e size v n xs)
    (A : Addr) (m c : Nat) (ys : List Value) (hx : a.eval x = .slice (some A) m c) (hl : ys.length = m * size) (hc : ∀ j y, ys[j]? = some y → w.cell? (A.add j) = some y) (h1 : ∀ y ∈ ys, y.oneCell' = true)
    (hn : n + m ≤ 1000000000) (hby : bytes ≤ 1000) (hbase : base ≤ w.heap.size)
    (h : ∀ v' w', w'.ownsRow base e size v' (n + m) (xs ++ ys) → w.grownBy w' v.ownBlock → (v'.ownBlock = v.ownBlock ∨ v'.ownBlock = some w.heap.size) → wpList P ops Q rest (a.put o.dst v') w') :
    wpList P ops Q (o :: rest) a w := by
  obtain ⟨i, hi, hz, hsi, hbs⟩ := info_parts hinfo
  refine wpList_append_own_at w hgd s x t ho base e i z size bytes ht hi hz hsi hbs hzs hsz v n xs hs hown A m c ys hx hl hc h1 (by unfold maxLen; omega) ?_ hbase (fun v' w' h2 h3 _ h5 => h v' w' h2 h3 h5)
  have : (n + m) * bytes ≤ 1000000000 * 1000 := Nat.mul_le_mul (by omega) hby
  omega
theorem chk_lens {l : List Sh} {k m : Int} (h : chkR l k m = true) : ∀ i, i < l.length → (l.getD i (0, [])).2.length = (l.getD 0 (0, [])).2.length ∧ (l.getD i (0, [])).2.length ≤ 40 := fun i hi => ((shardsOk_iff _ _).1 (decOk_shards (chk_at h).1) i (l.getD i (0, [])) (by simp [List.getD, hi])).2
theorem xor_oneR (x : UInt8) : bits BinOp.xor IntKind.u8 (x.toNat : Int) 1 = ((x ^^^ 1).toNat : Int) := xor_u8 x 1
end G294
namespace Go.Proofs.YtbfchebnooanjaaDoor
open Go.ChangeShapes Go.WideShapes Go.ChangeAt Go.RowKit G294

set_option maxRecDepth 100000 in
set_option maxHeartbeats 8000000 in
theorem rebuilt_walk (v u : Value) (l0 m0 : List UInt8) (w : World) (hv : Seen w v (bys l0)) (hu : Seen w u (bys m0)) (ht : Tab w) (h0 : 0 < w.heap.size) :
    Calls Tryd.prog 3 #[v, u] w fun e w' => e = .returned (.bool true) ∧ Below w.heap.size w w' := by
  have HV := Lib.hid hv
  have HU := Lib.hid hu
  obtain ⟨A, c, rfl, hlc, hcm, hx⟩ := hv
  obtain ⟨A', c', rfl, hlc', hcm', hx'⟩ := hu
  rw [bys_length] at hlc hlc' HV HU
  simp only [bys_length]
  clear hx hx'
  unfold maxLen at hcm hcm'
  generalize l0.length = n1 at *
  generalize m0.length = n2 at *
  have HT : Hid (∀ W, Below w.heap.size w W → Tab W ∧ 0 < W.heap.size) := fun W h => ⟨ht.below h h0, by have := h.size; omega⟩
  clear ht
  by_cases hbig : 1048576 < wrap64 ((n1 : Int) + (n2 : Int))
  · go_enter Tryd.func3, Tryd.ntmps3
    go_wp2_with fail
    go_ret
    exact ⟨rfl, Below.refl _ _⟩
  have hB := Below.refl w.heap.size w
  go_enter Tryd.func3, Tryd.ntmps3
  go_wp2_with fail
  refine (drawReb_any _ l0 _ HV.out).mono ?_
  rintro e w1 ⟨v1, l, kn, qn, no, rfl, ⟨b1, b2, b3, b4, b5⟩, sL, k1⟩
  have s1 := k1.size
  replace hB := k1.base hB (by omega) (by omega)
  obtain ⟨A1, c1, hv1⟩ := sL.len
  subst hv1
  have HS1 := Lib.hid sL
  clear sL k1
  have HRS := Lib.hid (fun (h1 : chkR l (kn : Int) (qn : Int) = true) (h2 : rebOk l (kn : Int) (qn : Int) no = true) (o : Sh) (ho : o ∈ l) (hn : o.1 = no) => reb_same h1 h2 ho hn)
  have HBAD := Lib.hid (fun (h1 : chkR l (kn : Int) (qn : Int) = true) (hl : (kn : Int) < (l.length : Int)) (i : Nat) (hi : i < l.length) (y : List UInt8) (hy : y.length = (l.getD i (0, [])).2.length) (hne : y ≠ (l.getD i (0, [])).2) => chk_bad h1 hl hi hy hne)
  have HLN := Lib.hid (fun (h1 : chkR l (kn : Int) (qn : Int) = true) => chk_lens h1)
  have HI1 := Lib.hid (fun W (h : SeenH W (.slice A1 l.length c1) l) (h3 : Tab W ∧ 0 < W.heap.size) => rebuildShard_own _ l (kn : Int) (qn : Int) no W h (by omega) h3.1 h3.2)
  have HI2 := Lib.hid (fun W (h : SeenH W (.slice A1 l.length c1) l) => sRebuildShard_own _ l (kn : Int) (qn : Int) no W h)
  have HI3 := Lib.hid (fun W (h : SeenH W (.slice A1 l.length c1) l) (h3 : Tab W ∧ 0 < W.heap.size) => checkShards_own _ l (kn : Int) (qn : Int) W h (by omega) h3.1 h3.2)
  have HI4 := Lib.hid (fun W (h : SeenH W (.slice A1 l.length c1) l) => sCheckShards_own _ l (kn : Int) (qn : Int) W h)
  unfold RetShOk at HI1 HI2
  unfold RetBools at HI3 HI4
  generalize rebR l (kn : Int) (qn : Int) no = x at *
  generalize rebOk l (kn : Int) (qn : Int) no = ok at *
  generalize chkR l (kn : Int) (qn : Int) = rt at *
  generalize decOk l (kn : Int) (qn : Int) = dk at *
  obtain ⟨xn, xd⟩ := x
  generalize hnn : l.length = n at *
  have HN := Lib.hid hnn
  clear hnn
  go_wp2_with fail
  refine (HI1.out _ HS1.out (HT.out _ hB)).mono ?_
  rintro e w2 ⟨rfl, k2⟩
  have s2 := k2.size
  replace hB := k2.base hB (by omega) (by omega)
  have a2 := turn_alloc w2 (.cells #[.int .i64 xn, .string (str xd)] 27)
  have z2 := World.size_alloc w2 (.cells #[.int .i64 xn, .string (str xd)] 27)
  have d0 := alloc_duo0 w2 (.int .i64 xn) (.string (str xd)) 27
  have d1 := alloc_duo1 w2 (.int .i64 xn) (.string (str xd)) 27
  replace hB := a2.base hB (by omega) (by omega)
  have HS2 := Lib.hid (((HS1.out.below k2.to_below).below a2.to_below))
  clear k2 a2
  go_wp2_with fail
  refine (HI2.out _ HS2.out).mono ?_
  rintro e w3 ⟨rfl, k3⟩
  have s3 := k3.size
  replace hB := k3.base hB (by omega) (by omega)
  have a3 := turn_alloc w3 (.cells #[.int .i64 xn, .string (str xd)] 27)
  have z3 := World.size_alloc w3 (.cells #[.int .i64 xn, .string (str xd)] 27)
  have e0 := alloc_duo0 w3 (.int .i64 xn) (.string (str xd)) 27
  have e1 := alloc_duo1 w3 (.int .i64 xn) (.string (str xd)) 27
  replace hB := a3.base hB (by omega) (by omega)
  have HS3 := Lib.hid (((HS2.out.below k3.to_below).below a3.to_below))
  replace d0 := cell_turn a3 (cell_turn k3 d0 (by omega)) (by omega)
  replace d1 := cell_turn a3 (cell_turn k3 d1 (by omega)) (by omega)
  clear k3 a3
  go_wp2_with fail
  refine (HI3.out _ HS3.out (HT.out _ hB)).mono ?_
  rintro e w4 ⟨rfl, k4⟩
  have s4 := k4.size
  replace hB := k4.base hB (by omega) (by omega)
  have HS4 := Lib.hid (HS3.out.below k4.to_below)
  replace d0 := cell_turn k4 d0 (by omega)
  replace d1 := cell_turn k4 d1 (by omega)
  replace e0 := cell_turn k4 e0 (by omega)
  replace e1 := cell_turn k4 e1 (by omega)
  clear k4
  go_wp2_with fail
  refine (HI4.out _ HS4.out).mono ?_
  rintro e w5 ⟨rfl, k5⟩
  have s5 := k5.size
  replace hB := k5.base hB (by omega) (by omega)
  have HS5 := Lib.hid (HS4.out.below k5.to_below)
  replace d0 := cell_turn k5 d0 (by omega)
  replace d1 := cell_turn k5 d1 (by omega)
  replace e0 := cell_turn k5 e0 (by omega)
  replace e1 := cell_turn k5 e1 (by omega)
  clear k5 HS1 HS2 HS3 HS4 HI1 HI2 HI3 HI4
  have h2w : w2.heap.size < w5.heap.size := by omega
  have hoo : (ok != ok) = false := by cases ok <;> rfl
  have hrr : (rt != rt) = false := by cases rt <;> rfl
  have hdd : (dk != dk) = false := by cases dk <;> rfl
  have hbb := str_same xd
  have hxx : (xn == xn) = true := by simp
  by_cases hor : ok = true ∧ rt = true
  · obtain ⟨rfl, rfl⟩ := hor
    clear hoo hrr
    have HRS2 := Lib.hid (HRS.out rfl rfl)
    have HBAD2 := Lib.hid (HBAD.out rfl)
    have HLN2 := Lib.hid (HLN.out rfl)
    obtain ⟨A1', c1', hv5, hlc5, hcm5, hX5⟩ := HS5.out
    rw [HN.out] at hv5 hlc5 hX5
    simp only [Value.slice.injEq] at hv5
    obtain ⟨rfl, e5x, rfl⟩ := hv5
    clear e5x
    unfold maxLen at hcm5
    have HX5 := Lib.hid hX5
    have HB5 := Lib.hid hB
    clear hX5 HRS HBAD HLN
    go_wp2_with fail
    clear e0 e1 hdd
    go_loopw [99] (fun i wr => ∃ j : Nat, j ≤ n ∧ i = .int .i64 (j : Int) ∧ Hid (Below w5.heap.size w5 wr)) (fun i _ => n - (intOf i).toNat)
    case atStart => exact ⟨0, Nat.zero_le _, rfl, Lib.hid (Below.refl _ _)⟩
    case round =>
      obtain ⟨j, hj, rfl, HBr⟩ := hrel
      clear hB
      have sr := HBr.out.size
      by_cases hlt : j < n
      · have hji : (j : Int) < (n : Int) := by omega
        obtain ⟨b, off, rfl, hbl, hcell⟩ := HX5.out (by omega)
        obtain ⟨⟨no', s'⟩, hks⟩ := at_lt HN.out hlt
        have hc1 := (HBr.out.cell (p := ⟨b, off + j * 2, none⟩) hbl).trans (hcell j _ hks).1
        have hc2 := (HBr.out.cell (p := ⟨b, off + j * 2 + 1, none⟩) hbl).trans (hcell j _ hks).2
        simp only at hc1 hc2
        have HSA := Lib.hid (fun (h : no' = no) => HRS2.out (no', s') (List.mem_of_getElem? hks) h)
        have f0 := (HBr.out.cell (p := ⟨w2.heap.size, 0, none⟩) h2w).trans d0
        have f1 := (HBr.out.cell (p := ⟨w2.heap.size, 1, none⟩) h2w).trans d1
        have ka := turn_alloc wr (.cells #[.int .i64 no', .string (str s')] 27)
        have g0 := alloc_duo0 wr (.int .i64 no') (.string (str s')) 27
        have g1 := alloc_duo1 wr (.int .i64 no') (.string (str s')) 27
        replace f0 := cell_turn ka f0 (by omega)
        replace f1 := cell_turn ka f1 (by omega)
        have HBa := Lib.hid (HBr.out.alloc HBr.out.size (.cells #[.int .i64 no', .string (str s')] 27))
        clear hcell hks ka
        by_cases hno : no' = no
        · have hs := HSA.out hno
          simp only [Prod.mk.injEq] at hs
          obtain ⟨rfl, rfl⟩ := hs
          have hnn2 : (no' == no) = true := by simp [hno]
          clear hno HSA
          go_wp2_with fail
          go_roundw
          case rel => exact ⟨j + 1, by omega, by go_num, HBa⟩
          case measure => simp [intOf]; omega
        · have hnn2 : (no' == no) = false := by simp [hno]
          clear hno HSA
          go_wp2_with fail
          go_roundw
          case rel => exact ⟨j + 1, by omega, by go_num, HBa⟩
          case measure => simp [intOf]; omega
      · obtain rfl : j = n := by omega
        have hji : ¬ (j : Int) < (j : Int) := by omega
        have hB := HB5.out.trans (HBr.out.mono (by omega))
        clear d0 d1 hbb hxx HRS2
        by_cases hgt : kn < j
        · have hgi : (kn : Int) < (j : Int) := by omega
          have hgd : decide ((kn : Int) < (j : Int)) = true := by simpa using hgi
          have hj0 : (0 : Int) < (j : Int) := by omega
          obtain ⟨b, off, rfl, hbl, hcell⟩ := HX5.out (by omega)
          obtain ⟨⟨n0, s0⟩, hk0⟩ := at_lt (k := 0) HN.out (by omega)
          have hc0 := (HBr.out.cell (p := ⟨b, off + 0 * 2 + 1, none⟩) hbl).trans (hcell 0 _ hk0).2
          simp only [Nat.zero_mul, Nat.add_zero] at hc0
          have hs0 : (l.getD 0 (0, [])).2 = s0 := by simp [List.getD, hk0]
          have hz0 := str_size s0
          have hsr := HBr.out.size
          by_cases hd : 0 < s0.length
          · have hdi : (0 : Int) < (s0.length : Int) := by omega
            have hdd2 : decide ((0 : Int) < (s0.length : Int)) = true := by simpa using hdi
            have HCL := Lib.hid hcell
            have HCR : Hid (∀ W, Below wr.heap.size wr W → ∀ i y, (shs l)[i]? = some y → W.cell? ((⟨b, off, none⟩ : Addr).add i) = some y) := fun W h i y hy => by
              have hbl2 : b < wr.heap.size := by omega
              refine shs_cells (fun i s hs => ?_) i y hy
              have h1 := hcell i s hs
              exact ⟨((h.cell (p := ⟨b, off + i * 2, none⟩) hbl2).trans (HBr.out.cell (p := ⟨b, off + i * 2, none⟩) hbl)).trans h1.1, ((h.cell (p := ⟨b, off + i * 2 + 1, none⟩) hbl2).trans (HBr.out.cell (p := ⟨b, off + i * 2 + 1, none⟩) hbl)).trans h1.2⟩
            have HZ0 : Hid (0 < s0.length ∧ (l.getD 0 (0, [])).2.length = s0.length) := ⟨hd, by rw [hs0]⟩
            have kE : Below wr.heap.size wr (wr.alloc (.cells #[] 27)) := (Below.refl _ _).alloc (Nat.le_refl _) _
            have hlit : (wr.alloc (.cells #[] 27)).ownsRow wr.heap.size 27 2 (.slice (some ⟨wr.heap.size, 0, none⟩) 0 0) 0 [] := World.ownsRow_lit wr #[] 0 (Nat.le_refl _) (by unfold maxLen; omega) rfl
            have hshl : (shs l).length = j * 2 := by rw [shs_length, HN.out]
            clear hcell hk0 hs0
            generalize s0.length = sn0 at *
            go_wp2_with (at_builtin; refine wpList_appendMany rfl _ _ _ rfl wr.heap.size 27 _ 2 _ Tryd.underlying23 infoShard rfl (by omega) _ 0 [] rfl hlit ⟨b, off, none⟩ j _ (shs l) (by rfl) hshl (HCR.out _ kE) (shs_oneC l) ?c2 ?c3 ?c4 ?_)
            all_goals try first | omega | (simp; done)
            intro vx wx hox hgx hvx
            try simp only [Nat.zero_add, List.nil_append] at hox

            have hbx : Below wr.heap.size wr wx := kE.grown hgx (by simp) (fun g e => by simp [Value.ownBlock] at e; omega)
            replace hB := hB.trans (hbx.mono hB.size)
            have sx := hbx.size
            obtain ⟨gx, cx, rfl⟩ : ∃ gx cx, vx = .slice (some ⟨gx, 0, none⟩) j cx := by
              rcases hox.2 with ⟨_, hh⟩ | ⟨gx, cap, cur, hh, _⟩
              · omega
              · exact ⟨gx, cap, hh⟩
            have hgx2 := hox.lt gx rfl
            have HOX := Lib.hid hox
            clear hox hgx hvx hlit hshl HCL HCR kE hc0
            have hj1 : ¬ ((j : Int) = 0) := by omega
            go_wp2_with fail
            refine (numberOf_any _ m0 _ (HU.out.below hB)).mono ?_
            rintro e w' ⟨nm, hnm, rfl, rfl⟩
            obtain ⟨q, hq, hqm⟩ : ∃ q : Nat, q < j ∧ (nm : Int) % (j : Int) = (q : Int) := ⟨nm % j, Nat.mod_lt _ (by omega), by rw [← Int.natCast_emod]⟩
            have hqi : (q : Int) < (j : Int) := by omega
            have hql : q < l.length := by rw [HN.out]; exact hq
            obtain ⟨⟨nq, tq⟩, hkq⟩ := at_lt HN.out hq
            have hgq : l.getD q (0, []) = (nq, tq) := by simp [List.getD, hkq]
            have hlq : l[q] = (nq, tq) := by simpa using (List.getElem?_eq_some_iff.1 hkq).2
            have hll := HLN2.out q (by first | exact hql | exact hq)
            rw [hgq, HZ0.out.2] at hll
            have htq : 0 < tq.length := by have := HZ0.out.1; simp only at hll; omega
            have htm : tq.length ≤ maxLen := by unfold maxLen; simp only at hll; omega
            have hcq : wx.cell? ⟨gx, q * 2 + 1, none⟩ = some (.string (str tq)) := by rw [HOX.out.cellAt (q * 2 + 1) (by omega), shs_data l q hql, hlq]
            have hfq := HOX.out.frozenAt (q * 2 + 1)
            obtain ⟨cpb, wb, hconv, hcp1, hcp2, hBI, hbb2⟩ := bytes_of_str (P := Tryd.prog) wx 9 22 5 tq Tryd.underlying9 Tryd.underlying22 Tryd.underlying5 htm
            have sb := hbb2.size
            have hcb := hBI.cell 0 htq
            have hfb := hBI.free 0 htq
            have hxo := xor_oneR (tq.getD 0 0)
            have HST := Lib.hid (hBI.store (q := 0) (x := tq.getD 0 0 ^^^ 1) htq (l' := flp tq) rfl)
            have tsb := turn_setCell wb wx.heap.size 0 (.int .u8 ((tq.getD 0 0 ^^^ 1).toNat : Int))
            have HOB := Lib.hid (owns_turn2 (owns_turn0 HOX.out (TurnIn.of_below hbb2)) (fun g e => (HOX.out.lt g e).2) tsb (by omega))
            have hcq2 : (wb.setCell ⟨wx.heap.size, 0, none⟩ (.int .u8 ((tq.getD 0 0 ^^^ 1).toNat : Int))).cell? ⟨gx, q * 2 + 1, none⟩ = some (.string (str tq)) := by rw [HOB.out.cellAt (q * 2 + 1) (by omega), shs_data l q hql, hlq]
            have hfq2 := HOB.out.frozenAt (q * 2 + 1)
            have hseen := HST.out.seen (cp := cpb) (by simpa using hcp1) hcp2
            have hconv2 := run_string_seen (P := Tryd.prog) 22 5 9 Tryd.underlying22 Tryd.underlying5 Tryd.underlying9 hseen
            rw [flp_length] at hconv2
            have HOD := Lib.hid (ownSh_setD HOB.out HN.out hq (flp tq))
            have hB2 : Below w.heap.size w (wb.setCell ⟨wx.heap.size, 0, none⟩ (.int .u8 ((tq.getD 0 0 ^^^ 1).toNat : Int))) := (hB.trans (hbb2.mono hB.size)).setCell (p := ⟨wx.heap.size, 0, none⟩) hB.size _
            have HB3 := Lib.hid (hB2.setCell (p := ⟨gx, q * 2 + 1, none⟩) (show w.heap.size ≤ gx by have := HB5.out.size; omega) (.string (str (flp tq))))
            have hbad := HBAD2.out (by first | exact hgi | (rw [HN.out]; exact hgi)) q (by first | exact hql | exact hq) (flp tq) (by rw [hgq]; simp) (by rw [hgq]; exact flp_ne htq)
            have HSX : Hid (SeenH ((wb.setCell ⟨wx.heap.size, 0, none⟩ (.int .u8 ((tq.getD 0 0 ^^^ 1).toNat : Int))).setCell ⟨gx, q * 2 + 1, none⟩ (.string (str (flp tq)))) (.slice (some ⟨gx, 0, none⟩) j cx) (wrg l q (flp tq))) := by
              have h := HOD.out
              have hl : (l.set q ((l.getD q (0, [])).1, flp tq)).length = j := by rw [List.length_set, HN.out]
              exact OwnSh.seen (E := 27) (lo := wr.heap.size) (hi := ((wb.setCell ⟨wx.heap.size, 0, none⟩ (.int .u8 ((tq.getD 0 0 ^^^ 1).toNat : Int))).setCell ⟨gx, q * 2 + 1, none⟩ (.string (str (flp tq)))).heap.size) ⟨by unfold wrg; rw [hl]; exact h, Nat.le_refl _, fun g e => (h.lt g e).2⟩
            have HCK := Lib.hid (fun (h3 : Tab _ ∧ 0 < _) => checkShards_own _ (wrg l q (flp tq)) (kn : Int) (qn : Int) _ HSX.out (by rw [wrg_length, HN.out]; omega) h3.1 h3.2)
            unfold RetBools at HCK
            rw [hbad.1, hbad.2] at HCK
            generalize tq.getD 0 0 ^^^ 1 = y2 at *
            generalize tq.getD 0 0 = y1 at *
            generalize flp tq = tq2 at *
            clear HOX HST HOB HOD hseen hbad tsb hbb2 hBI hkq hgq hlq hll htm hB2 HLN2 HBAD2 HSX hB
            generalize tq.length = tn at *
            go_wp2_with fail
            refine (HCK.out (HT.out _ HB3.out)).mono ?_
            rintro e wy ⟨rfl, ky⟩
            have sy := ky.size
            have hB := ky.base HB3.out HB3.out.size (by omega)
            clear HCK HB3 ky hconv hconv2 hcq hfq hcq2 hfq2 hcb hfb hxo
            have sB := hB.size
            go_wp2_with fail
            refine (drawSplit_any _ m0 _ (HU.out.below hB)).mono ?_
            rintro e wp ⟨tx, kz, rfl, ⟨t1, t2, t3⟩, kp⟩
            have sp := kp.size
            replace hB := kp.base hB (by omega) (by omega)
            have HSJ := Lib.hid (fun h => @split_join tx kz h)
            have HSN : Hid (splitOk tx kz = false → splitR tx kz = []) := fun h => by unfold splitR; rw [if_neg (by rw [h]; simp)]
            have HP1 := Lib.hid (fun W => splitText_own tx kz W (by omega))
            have HP2 := Lib.hid (fun W => sSplitText_own tx kz W (by omega))
            have hsz := str_size tx
            unfold RetStrsOk at HP1 HP2
            generalize splitR tx kz = pl at *
            generalize splitOk tx kz = so at *
            clear kp
            go_wp2_with fail
            refine (HP1.out _).mono ?_
            rintro e wq ⟨vq, rfl, oq, kq⟩
            have sq := kq.size
            replace hB := kq.base hB (by omega) (by omega)
            obtain ⟨Aq, cq, hvq⟩ := oq.seen.len
            rw [strs_length] at hvq
            subst hvq
            have HOq := Lib.hid oq.seen
            clear oq kq
            go_wp2_with fail
            refine (HP2.out _).mono ?_
            rintro e wr ⟨vr, rfl, orr, kr⟩
            have sr := kr.size
            replace hB := kr.base hB (by omega) (by omega)
            have HOq2 := Lib.hid (HOq.out.below kr.to_below)
            obtain ⟨Ar, cr, hvr⟩ := orr.seen.len
            rw [strs_length] at hvr
            subst hvr
            have HOr := Lib.hid orr.seen
            clear orr kr
            have hso : (so != so) = false := by cases so <;> rfl
            generalize hpn : pl.length = pn at *
            have HPN := Lib.hid hpn
            clear hpn
            go_wp2_with fail
            refine (sameTexts_same _ _ pl _ (by have h := HOq2.out; exact h) (by have h := HOr.out; exact h)).mono ?_
            rintro e wt ⟨rfl, kt⟩
            have st := kt.size
            replace hB := kt.base hB (by omega) (by omega)
            have HOq3 := Lib.hid (HOq2.out.below kt.to_below)
            clear kt
            cases so
            · have hpl : pn = 0 := by rw [← HPN.out, HSN.out rfl]; rfl
              have hp1 : ((pn : Int) == (0 : Int)) = true := by simp [hpl]
              clear hpl
              go_wp2_with fail
              go_ret
              exact ⟨by first | rfl | simp [hp1], hB⟩
            · obtain ⟨j1, j2, j3⟩ := HSJ.out rfl
              have HJ := Lib.hid (fun W (h : Seen W (.slice Aq pn cq) (strs pl)) => joinShards_own _ pl (tx.length : Int) W h)
              unfold RetStrOk at HJ
              rw [j1, j2] at HJ
              try rw [HPN.out] at j3
              have hp1 : ((pn : Int) == kz) = true := by simp [j3]
              have hss := str_same tx
              clear j1 j2 j3 hso
              go_wp2_with fail
              refine (HJ.out _ HOq3.out).mono ?_
              rintro e wj ⟨rfl, kj⟩
              replace hB := kj.base hB (by omega) (by omega)
              go_wp2_with fail
              go_ret
              exact ⟨by first | rfl | simp [hp1, hss], hB⟩
          · have hdi : ¬ (0 : Int) < (s0.length : Int) := by omega
            have hdd2 : decide ((0 : Int) < (s0.length : Int)) = false := by simpa using hdi
            clear hcell hk0 hs0
            generalize s0.length = sn0 at *
            have sB := hB.size
            go_wp2_with fail
            refine (drawSplit_any _ m0 _ (HU.out.below hB)).mono ?_
            rintro e wp ⟨tx, kz, rfl, ⟨t1, t2, t3⟩, kp⟩
            have sp := kp.size
            replace hB := kp.base hB (by omega) (by omega)
            have HSJ := Lib.hid (fun h => @split_join tx kz h)
            have HSN : Hid (splitOk tx kz = false → splitR tx kz = []) := fun h => by unfold splitR; rw [if_neg (by rw [h]; simp)]
            have HP1 := Lib.hid (fun W => splitText_own tx kz W (by omega))
            have HP2 := Lib.hid (fun W => sSplitText_own tx kz W (by omega))
            have hsz := str_size tx
            unfold RetStrsOk at HP1 HP2
            generalize splitR tx kz = pl at *
            generalize splitOk tx kz = so at *
            clear kp
            go_wp2_with fail
            refine (HP1.out _).mono ?_
            rintro e wq ⟨vq, rfl, oq, kq⟩
            have sq := kq.size
            replace hB := kq.base hB (by omega) (by omega)
            obtain ⟨Aq, cq, hvq⟩ := oq.seen.len
            rw [strs_length] at hvq
            subst hvq
            have HOq := Lib.hid oq.seen
            clear oq kq
            go_wp2_with fail
            refine (HP2.out _).mono ?_
            rintro e wr ⟨vr, rfl, orr, kr⟩
            have sr := kr.size
            replace hB := kr.base hB (by omega) (by omega)
            have HOq2 := Lib.hid (HOq.out.below kr.to_below)
            obtain ⟨Ar, cr, hvr⟩ := orr.seen.len
            rw [strs_length] at hvr
            subst hvr
            have HOr := Lib.hid orr.seen
            clear orr kr
            have hso : (so != so) = false := by cases so <;> rfl
            generalize hpn : pl.length = pn at *
            have HPN := Lib.hid hpn
            clear hpn
            go_wp2_with fail
            refine (sameTexts_same _ _ pl _ (by have h := HOq2.out; exact h) (by have h := HOr.out; exact h)).mono ?_
            rintro e wt ⟨rfl, kt⟩
            have st := kt.size
            replace hB := kt.base hB (by omega) (by omega)
            have HOq3 := Lib.hid (HOq2.out.below kt.to_below)
            clear kt
            cases so
            · have hpl : pn = 0 := by rw [← HPN.out, HSN.out rfl]; rfl
              have hp1 : ((pn : Int) == (0 : Int)) = true := by simp [hpl]
              clear hpl
              go_wp2_with fail
              go_ret
              exact ⟨by first | rfl | simp [hp1], hB⟩
            · obtain ⟨j1, j2, j3⟩ := HSJ.out rfl
              have HJ := Lib.hid (fun W (h : Seen W (.slice Aq pn cq) (strs pl)) => joinShards_own _ pl (tx.length : Int) W h)
              unfold RetStrOk at HJ
              rw [j1, j2] at HJ
              try rw [HPN.out] at j3
              have hp1 : ((pn : Int) == kz) = true := by simp [j3]
              have hss := str_same tx
              clear j1 j2 j3 hso
              go_wp2_with fail
              refine (HJ.out _ HOq3.out).mono ?_
              rintro e wj ⟨rfl, kj⟩
              replace hB := kj.base hB (by omega) (by omega)
              go_wp2_with fail
              go_ret
              exact ⟨by first | rfl | simp [hp1, hss], hB⟩
        · have hgi : ¬ (kn : Int) < (j : Int) := by omega
          have hgd : decide ((kn : Int) < (j : Int)) = false := by simpa using hgi
          have sB := hB.size
          go_wp2_with fail
          refine (drawSplit_any _ m0 _ (HU.out.below hB)).mono ?_
          rintro e wp ⟨tx, kz, rfl, ⟨t1, t2, t3⟩, kp⟩
          have sp := kp.size
          replace hB := kp.base hB (by omega) (by omega)
          have HSJ := Lib.hid (fun h => @split_join tx kz h)
          have HSN : Hid (splitOk tx kz = false → splitR tx kz = []) := fun h => by unfold splitR; rw [if_neg (by rw [h]; simp)]
          have HP1 := Lib.hid (fun W => splitText_own tx kz W (by omega))
          have HP2 := Lib.hid (fun W => sSplitText_own tx kz W (by omega))
          have hsz := str_size tx
          unfold RetStrsOk at HP1 HP2
          generalize splitR tx kz = pl at *
          generalize splitOk tx kz = so at *
          clear kp
          go_wp2_with fail
          refine (HP1.out _).mono ?_
          rintro e wq ⟨vq, rfl, oq, kq⟩
          have sq := kq.size
          replace hB := kq.base hB (by omega) (by omega)
          obtain ⟨Aq, cq, hvq⟩ := oq.seen.len
          rw [strs_length] at hvq
          subst hvq
          have HOq := Lib.hid oq.seen
          clear oq kq
          go_wp2_with fail
          refine (HP2.out _).mono ?_
          rintro e wr ⟨vr, rfl, orr, kr⟩
          have sr := kr.size
          replace hB := kr.base hB (by omega) (by omega)
          have HOq2 := Lib.hid (HOq.out.below kr.to_below)
          obtain ⟨Ar, cr, hvr⟩ := orr.seen.len
          rw [strs_length] at hvr
          subst hvr
          have HOr := Lib.hid orr.seen
          clear orr kr
          have hso : (so != so) = false := by cases so <;> rfl
          generalize hpn : pl.length = pn at *
          have HPN := Lib.hid hpn
          clear hpn
          go_wp2_with fail
          refine (sameTexts_same _ _ pl _ (by have h := HOq2.out; exact h) (by have h := HOr.out; exact h)).mono ?_
          rintro e wt ⟨rfl, kt⟩
          have st := kt.size
          replace hB := kt.base hB (by omega) (by omega)
          have HOq3 := Lib.hid (HOq2.out.below kt.to_below)
          clear kt
          cases so
          · have hpl : pn = 0 := by rw [← HPN.out, HSN.out rfl]; rfl
            have hp1 : ((pn : Int) == (0 : Int)) = true := by simp [hpl]
            clear hpl
            go_wp2_with fail
            go_ret
            exact ⟨by first | rfl | simp [hp1], hB⟩
          · obtain ⟨j1, j2, j3⟩ := HSJ.out rfl
            have HJ := Lib.hid (fun W (h : Seen W (.slice Aq pn cq) (strs pl)) => joinShards_own _ pl (tx.length : Int) W h)
            unfold RetStrOk at HJ
            rw [j1, j2] at HJ
            try rw [HPN.out] at j3
            have hp1 : ((pn : Int) == kz) = true := by simp [j3]
            have hss := str_same tx
            clear j1 j2 j3 hso
            go_wp2_with fail
            refine (HJ.out _ HOq3.out).mono ?_
            rintro e wj ⟨rfl, kj⟩
            replace hB := kj.base hB (by omega) (by omega)
            go_wp2_with fail
            go_ret
            exact ⟨by first | rfl | simp [hp1, hss], hB⟩
  · cases ok
    · clear HRS HBAD HLN hor
      have sB := hB.size
      go_wp2_with fail
      refine (drawSplit_any _ m0 _ (HU.out.below hB)).mono ?_
      rintro e wp ⟨tx, kz, rfl, ⟨t1, t2, t3⟩, kp⟩
      have sp := kp.size
      replace hB := kp.base hB (by omega) (by omega)
      have HSJ := Lib.hid (fun h => @split_join tx kz h)
      have HSN : Hid (splitOk tx kz = false → splitR tx kz = []) := fun h => by unfold splitR; rw [if_neg (by rw [h]; simp)]
      have HP1 := Lib.hid (fun W => splitText_own tx kz W (by omega))
      have HP2 := Lib.hid (fun W => sSplitText_own tx kz W (by omega))
      have hsz := str_size tx
      unfold RetStrsOk at HP1 HP2
      generalize splitR tx kz = pl at *
      generalize splitOk tx kz = so at *
      clear kp
      go_wp2_with fail
      refine (HP1.out _).mono ?_
      rintro e wq ⟨vq, rfl, oq, kq⟩
      have sq := kq.size
      replace hB := kq.base hB (by omega) (by omega)
      obtain ⟨Aq, cq, hvq⟩ := oq.seen.len
      rw [strs_length] at hvq
      subst hvq
      have HOq := Lib.hid oq.seen
      clear oq kq
      go_wp2_with fail
      refine (HP2.out _).mono ?_
      rintro e wr ⟨vr, rfl, orr, kr⟩
      have sr := kr.size
      replace hB := kr.base hB (by omega) (by omega)
      have HOq2 := Lib.hid (HOq.out.below kr.to_below)
      obtain ⟨Ar, cr, hvr⟩ := orr.seen.len
      rw [strs_length] at hvr
      subst hvr
      have HOr := Lib.hid orr.seen
      clear orr kr
      have hso : (so != so) = false := by cases so <;> rfl
      generalize hpn : pl.length = pn at *
      have HPN := Lib.hid hpn
      clear hpn
      go_wp2_with fail
      refine (sameTexts_same _ _ pl _ (by have h := HOq2.out; exact h) (by have h := HOr.out; exact h)).mono ?_
      rintro e wt ⟨rfl, kt⟩
      have st := kt.size
      replace hB := kt.base hB (by omega) (by omega)
      have HOq3 := Lib.hid (HOq2.out.below kt.to_below)
      clear kt
      cases so
      · have hpl : pn = 0 := by rw [← HPN.out, HSN.out rfl]; rfl
        have hp1 : ((pn : Int) == (0 : Int)) = true := by simp [hpl]
        clear hpl
        go_wp2_with fail
        go_ret
        exact ⟨by first | rfl | simp [hp1], hB⟩
      · obtain ⟨j1, j2, j3⟩ := HSJ.out rfl
        have HJ := Lib.hid (fun W (h : Seen W (.slice Aq pn cq) (strs pl)) => joinShards_own _ pl (tx.length : Int) W h)
        unfold RetStrOk at HJ
        rw [j1, j2] at HJ
        try rw [HPN.out] at j3
        have hp1 : ((pn : Int) == kz) = true := by simp [j3]
        have hss := str_same tx
        clear j1 j2 j3 hso
        go_wp2_with fail
        refine (HJ.out _ HOq3.out).mono ?_
        rintro e wj ⟨rfl, kj⟩
        replace hB := kj.base hB (by omega) (by omega)
        go_wp2_with fail
        go_ret
        exact ⟨by first | rfl | simp [hp1, hss], hB⟩
    · cases rt
      · clear HRS HBAD HLN hor
        have sB := hB.size
        go_wp2_with fail
        refine (drawSplit_any _ m0 _ (HU.out.below hB)).mono ?_
        rintro e wp ⟨tx, kz, rfl, ⟨t1, t2, t3⟩, kp⟩
        have sp := kp.size
        replace hB := kp.base hB (by omega) (by omega)
        have HSJ := Lib.hid (fun h => @split_join tx kz h)
        have HSN : Hid (splitOk tx kz = false → splitR tx kz = []) := fun h => by unfold splitR; rw [if_neg (by rw [h]; simp)]
        have HP1 := Lib.hid (fun W => splitText_own tx kz W (by omega))
        have HP2 := Lib.hid (fun W => sSplitText_own tx kz W (by omega))
        have hsz := str_size tx
        unfold RetStrsOk at HP1 HP2
        generalize splitR tx kz = pl at *
        generalize splitOk tx kz = so at *
        clear kp
        go_wp2_with fail
        refine (HP1.out _).mono ?_
        rintro e wq ⟨vq, rfl, oq, kq⟩
        have sq := kq.size
        replace hB := kq.base hB (by omega) (by omega)
        obtain ⟨Aq, cq, hvq⟩ := oq.seen.len
        rw [strs_length] at hvq
        subst hvq
        have HOq := Lib.hid oq.seen
        clear oq kq
        go_wp2_with fail
        refine (HP2.out _).mono ?_
        rintro e wr ⟨vr, rfl, orr, kr⟩
        have sr := kr.size
        replace hB := kr.base hB (by omega) (by omega)
        have HOq2 := Lib.hid (HOq.out.below kr.to_below)
        obtain ⟨Ar, cr, hvr⟩ := orr.seen.len
        rw [strs_length] at hvr
        subst hvr
        have HOr := Lib.hid orr.seen
        clear orr kr
        have hso : (so != so) = false := by cases so <;> rfl
        generalize hpn : pl.length = pn at *
        have HPN := Lib.hid hpn
        clear hpn
        go_wp2_with fail
        refine (sameTexts_same _ _ pl _ (by have h := HOq2.out; exact h) (by have h := HOr.out; exact h)).mono ?_
        rintro e wt ⟨rfl, kt⟩
        have st := kt.size
        replace hB := kt.base hB (by omega) (by omega)
        have HOq3 := Lib.hid (HOq2.out.below kt.to_below)
        clear kt
        cases so
        · have hpl : pn = 0 := by rw [← HPN.out, HSN.out rfl]; rfl
          have hp1 : ((pn : Int) == (0 : Int)) = true := by simp [hpl]
          clear hpl
          go_wp2_with fail
          go_ret
          exact ⟨by first | rfl | simp [hp1], hB⟩
        · obtain ⟨j1, j2, j3⟩ := HSJ.out rfl
          have HJ := Lib.hid (fun W (h : Seen W (.slice Aq pn cq) (strs pl)) => joinShards_own _ pl (tx.length : Int) W h)
          unfold RetStrOk at HJ
          rw [j1, j2] at HJ
          try rw [HPN.out] at j3
          have hp1 : ((pn : Int) == kz) = true := by simp [j3]
          have hss := str_same tx
          clear j1 j2 j3 hso
          go_wp2_with fail
          refine (HJ.out _ HOq3.out).mono ?_
          rintro e wj ⟨rfl, kj⟩
          replace hB := kj.base hB (by omega) (by omega)
          go_wp2_with fail
          go_ret
          exact ⟨by first | rfl | simp [hp1, hss], hB⟩
      · exact absurd ⟨rfl, rfl⟩ hor

set_option maxRecDepth 100000 in
theorem walk_FnRebuilt : G294.LawWalk Tryd.prog 3 Tryd.f3 Rows.fnRebuiltSpec.vars false (fun W => laidMetH Tryd.prog Rows.fnRebuiltRow.laid W) := by
  intro H enc W base args ds gs before hval hW hX
  have hlt0 : ∀ p ∈ before, p.block < W.heap.size := fun p hp => hW.lt p hp
  obtain ⟨p, q, hA, hV, rfl, hfz, hnd⟩ := hW
  rw [Tryd.params3] at hA hval
  obtain ⟨u0, u1, d0, d1, p0, p1, rfl, rfl, rfl, t0, t1⟩ := trodAll_two hA
  obtain ⟨l0, sn0⟩ := seen_bytes Tryd.underlying22 Tryd.underlying5 (by kernel_rfl) (hval 0 22 u0 rfl rfl) t0 (fun x hx => hlt0 x (by simp [hx]))
  obtain ⟨l1, sn1⟩ := seen_bytes Tryd.underlying22 Tryd.underlying5 (by kernel_rfl) (hval 1 22 u1 rfl rfl) t1 (fun x hx => hlt0 x (by simp [hx]))
  obtain ⟨ht, hs⟩ := tab_of (by kernel_rfl) hX 0 rfl (by kernel_rfl)
  exact rebuilt_walk u0 u1 l0 l1 W sn0 sn1 ht hs

end Go.Proofs.YtbfchebnooanjaaDoor
