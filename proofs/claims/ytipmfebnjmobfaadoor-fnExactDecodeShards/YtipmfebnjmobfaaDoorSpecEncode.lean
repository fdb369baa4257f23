/- EncodeShards: the model's. -/
import Derived.Test.YtipmfebnjmobfaaDoorEncMath
import Derived.Test.YtipmfebnjmobfaaDoorJoin
import Derived.Test.YtipmfebnjmobfaaDoorShardWalks
set_option linter.unusedSimpArgs false
set_option linter.unusedVariables false
namespace G294
open Go Go.RowKit
theorem shards_rows (r c n : Nat) (F : Ents) (T : List (List UInt8)) (k : Nat) (h : k < r) : (rowsT r c n F T)[k]? = some (comb c n (F k) T) := by
  simp [rowsT, mkM, h, comb]
/-- append(s, x) of one struct of two cells, onto a row of the call's own -/
theorem wpList_append2 {P : Program} {w : World} {ops : Array Oper} {rest : List Oper} {o : Oper} {a : Act} {Q : Exit → Act → World → Prop} (hgd : o.guard = none) (s x : Operand) (t : TypeId)
    (ho : o.op = .call { callee := .builtin .append, args := #[s, x], argTypes := #[t, t] })
    (base : Nat) (e : TypeId) (z : Value) (bytes : Nat) (ht : P.underlying t = some (.slice e)) (hinfo : (P.info? e).map (fun i => (i.zero, i.size, i.bytes)) = some (some z, 2, bytes)) (hzs : z.cells.size = 2)
    (v : Value) (n : Nat) (xs : List Value) (hs : a.eval s = v) (hown : w.ownsRow base e 2 v n xs)
    (g : Nat) (u u' : Value) (hx : a.eval x = .slice (some ⟨g, 0, none⟩) 1 1) (hc : w.cell? ⟨g, 0, none⟩ = some u) (hc' : w.cell? ⟨g, 1, none⟩ = some u') (h1 : u.oneCell' = true) (h2 : u'.oneCell' = true)
    (hn : n ≤ 1000000000) (hby : bytes ≤ 1000) (hbase : base ≤ w.heap.size)
    (h : ∀ v' w', w'.ownsRow base e 2 v' (n + 1) (xs ++ [u, u']) → w.grownBy w' v.ownBlock → (v'.ownBlock = v.ownBlock ∨ v'.ownBlock = some w.heap.size) → wpList P ops Q rest (a.put o.dst v') w') :
    wpList P ops Q (o :: rest) a w := by
  obtain ⟨i, hi, hz, hsz, hbs⟩ := info_parts hinfo
  refine wpList_append_own_at w hgd s x t ho base e i z 2 bytes ht hi hz hsz hbs hzs (by omega) v n xs hs hown ⟨g, 0, none⟩ 1 1 [u, u'] hx rfl ?_ ?_ ?_ ?_ hbase (fun v' w' h2 h3 _ h5 => h v' w' h2 h3 h5)
  · intro j y hj
    match j, hj with
    | 0, hj => simp at hj; subst hj; simpa [Addr.add] using hc
    | 1, hj => simp at hj; subst hj; simpa [Addr.add] using hc'
  · intro y hy
    simp only [List.mem_cons, List.not_mem_nil, or_false] at hy
    rcases hy with rfl | rfl
    · exact h1
    · exact h2
  · unfold maxLen; omega
  · have : (n + 1) * bytes ≤ 1000000001 * 1000 := Nat.mul_le_mul (by omega) hby
    omega
end G294
namespace Go.Proofs.YtipmfebnjmobfaaDoor
open Go.RowKit G294

set_option maxRecDepth 100000 in
set_option maxHeartbeats 4000000 in
theorem sEncodeShards_own (v : Value) (T : List (List UInt8)) (m : Int) (w : World) (hv : Seen w v (strs T)) :
    Calls Tryd.prog 35 #[v, .int .i64 m] w (RetShsOk 35 w (encR T m) (encOk T m)) := by
  have HV := Lib.hid hv
  obtain ⟨A, cp, hvv⟩ := hv.len
  rw [strs_length] at hvv
  subst hvv
  clear hv
  by_cases hs : shapeOk T.length m = true
  · have HS := Lib.hid hs
    have hbs := shapeOk_b hs
    obtain ⟨q, rfl⟩ := Int.eq_ofNat_of_zero_le (show 0 ≤ m by omega)
    clear hs
    by_cases htx : textsOk T = true
    · have HT := Lib.hid htx
      have HO : Hid (encOk T q = true) := by show encOk T q = true; rw [encOk, HS.out, HT.out]; rfl
      have HR := Lib.hid (encR_yes HO.out)
      have HAT := Lib.hid (textsOk_at htx)
      have hn40 := textsOk_first htx
      clear htx
      generalize hk : T.length = k at *
      have HK := Lib.hid hk
      generalize hnn : (T.getD 0 []).length = n at *
      have HNN := Lib.hid hnn
      clear hk hnn
      have hk8 : 1 ≤ k ∧ k ≤ 8 := by omega
      have hq6 : 1 ≤ q ∧ q ≤ 6 := by omega
      go_enter Tryd.func35, Tryd.ntmps35
      go_wp2_with fail
      refine (sGoodShape_any _ _ _).mono ?_
      rintro e w' ⟨rfl, rfl⟩
      rw [HS.out]
      go_wp2_with fail
      refine (l3Texts_any _ T _ HV.out).mono ?_
      rintro e w' ⟨rfl, rfl⟩
      rw [HT.out]
      go_wp2_with fail
      refine (l3Matrix_own k q _ (by omega) (by omega) (by omega) (by omega)).mono ?_
      rintro e w1 ⟨v1, vs1, rfl, hM1, k1⟩
      have hs1 := k1.size
      have HM1 := Lib.hid hM1
      clear hM1
      go_wp2_with fail
      refine (l3Rows_own (k + q) k n (codF k) T _ _ _ HM1.out.seen (HV.out.below k1.to_below) HK.out (by omega) (by omega) (by omega) HAT.out (by omega)).mono ?_
      rintro e w2 ⟨v2, rfl, hO2, k2⟩
      have hs2 := k2.size
      have hB2 : Below w.heap.size w w2 := k2.base k1.to_below (by omega) (by omega)
      obtain ⟨A2, c2, rfl, hlc2, hcm2, hx2⟩ := hO2.seen
      rw [strs_length, rowsT_length] at hlc2 hx2
      rw [strs_length, rowsT_length]
      obtain ⟨b, off, rfl, hbl, hcell⟩ := hx2 (by omega)
      have HC : Hid (∀ j, j < k + q → w2.cell? ⟨b, off + j, none⟩ = some (.string (str (comb k n (codF k j) T)))) := fun j hj => by
        refine hcell j _ ?_
        simp only [strs, List.getElem?_map, shards_rows _ _ _ _ _ _ hj, Option.map_some]
      unfold maxLen at hcm2
      clear hcell hx2 hO2
      generalize hrr : k + q = r at *
      go_wp2_with fail
      go_loopw [6, 26] (fun o i wr => ∃ j : Nat, j ≤ r ∧ i = .int .i64 j ∧ wr.ownsRow w2.heap.size 35 2 o j (shs ((shardsF r k n (codF k) T).take j)) ∧ Below w2.heap.size w2 wr)
        (fun _ i _ => r - (intOf i).toNat)
      case atStart => exact ⟨0, Nat.zero_le _, rfl, World.ownsRow_nil _ _ _ _, Below.refl _ _⟩
      case round =>
        obtain ⟨j, hj, rfl, hown, hb⟩ := hrel
        have hbs2 := hb.size
        by_cases hlt : j < r
        · have hji : (j : Int) < (r : Int) := by omega
          have hcx := (hb.cell (p := ⟨b, off + j, none⟩) hbl).trans (HC.out j hlt)
          go_wp2_with (at_builtin; refine wpList_append2 rfl _ _ _ rfl w2.heap.size 35 _ _ Tryd.underlying27 infoShard rfl _ j _ rfl (hown.alloc _) wr.heap.size (.int .i64 j) (.string (str (comb k n (codF k j) T))) rfl ?c1 ?c5 rfl rfl ?c2 ?c3 ?c4 ?_)
          case c1 => simp
          case c5 => simp
          case c2 => omega
          case c3 => omega
          case c4 => simp; omega
          intro v' w' hown' hg' _
          have hb' : Below w2.heap.size w2 w' := below_append (hb.alloc hbs2 _) (hown.alloc _) hg' (Nat.le_refl _) (by simp; omega)
          have hown3 : w'.ownsRow w2.heap.size 35 2 v' (j + 1) (shs ((shardsF r k n (codF k) T).take (j + 1))) := by
            rw [shardsF_take _ _ _ _ _ _ hlt, shs_append]; exact hown'
          clear hown' hg'
          go_wp2_with fail
          go_roundw
          case rel => exact ⟨j + 1, by omega, by go_num, hown3, hb'⟩
          case measure => simp [intOf]; omega
        · obtain rfl : j = r := by omega
          have hji : ¬ (j : Int) < (j : Int) := by omega
          go_wp2_with fail
          go_ret2
          refine ⟨_, by rw [HO.out]; rfl, ?_, TurnIn.of_below (hB2.trans (hb.mono (by omega)))⟩
          rw [List.take_of_length_le (by simp)] at hown
          rw [HR.out, encL, HNN.out, hrr]
          exact OwnSh.of_made (w := w) (own_base (by simpa using hown) (by omega))
    · have HT : Hid (textsOk T = false) := by show textsOk T = false; simpa using htx
      have HO : Hid (encOk T q = false) := by show encOk T q = false; rw [encOk, HT.out]; simp
      have HR := Lib.hid (encR_no HO.out)
      clear htx
      generalize hk : T.length = k at *
      go_enter Tryd.func35, Tryd.ntmps35
      go_wp2_with fail
      refine (sGoodShape_any _ _ _).mono ?_
      rintro e w' ⟨rfl, rfl⟩
      rw [HS.out]
      go_wp2_with fail
      refine (l3Texts_any _ T _ HV.out).mono ?_
      rintro e w' ⟨rfl, rfl⟩
      rw [HT.out]
      go_wp2_with fail
      go_ret2
      exact ⟨.slice none 0 0, by rw [HO.out]; rfl, by rw [HR.out]; exact OwnSh.nil _ _ _, TurnIn.refl _⟩
  · have HS : Hid (shapeOk T.length m = false) := by show shapeOk T.length m = false; simpa using hs
    have HO : Hid (encOk T m = false) := by show encOk T m = false; rw [encOk, HS.out]; rfl
    have HR := Lib.hid (encR_no HO.out)
    clear hs
    generalize hk : T.length = k at *
    go_enter Tryd.func35, Tryd.ntmps35
    go_wp2_with fail
    refine (sGoodShape_any _ _ _).mono ?_
    rintro e w' ⟨rfl, rfl⟩
    rw [HS.out]
    go_wp2_with fail
    go_ret2
    exact ⟨.slice none 0 0, by rw [HO.out]; rfl, by rw [HR.out]; exact OwnSh.nil _ _ _, TurnIn.refl _⟩

end Go.Proofs.YtipmfebnjmobfaaDoor
