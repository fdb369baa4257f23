/- DecodeShards, the program's. -/
import Derived.Test.YtipmfebnjmobfaaDoorSpecDecode2
import Derived.Test.YtipmfebnjmobfaaDoorDecBy
import Derived.Test.YtipmfebnjmobfaaDoorGoodSh
set_option linter.unusedSimpArgs false
set_option linter.unusedVariables false
namespace G294
open Go Go.RowKit
theorem used_inv {k : Nat} (l : List Sh) (h1 : 1 ≤ k) (h2 : k ≤ 16) : invOk (mkM k k (usedF k l)) = usedOk k l := by
  have e : ent (mkM k k (usedF k l)) = usedF k l := by rw [used_mk]; rfl
  have g : goodM (mkM k k (usedF k l)) = true := good_mkM _ _ _ h1 h2 h1 h2
  unfold invOk squareM rankN usedOk
  rw [g, wid_mkM _ _ _ (by omega), mkM_length, e]
  simp
theorem used_cod {k q : Nat} {l : List Sh} (hk : k ≤ l.length) (hno : ∀ (i : Nat) (s : Sh), l[i]? = some s → 0 ≤ s.1 ∧ s.1 < ((k + q : Nat) : Int)) : usedM (codM k q) (l.take k) = mkM k k (usedF k l) := by
  have h1 : usedM (codM k q) (l.take k) = pickM (mkM (k + q) k (codF k)) (nosK k l) := rfl
  have hl := nosK_length hk
  rw [h1, pickM_mk (fun i hi => by
    rw [hl] at hi
    rw [nosK_get hk hi]
    exact hno i _ (by simp [List.getD, show i < l.length by omega])), hl, used_mk]
  exact mkM_congr fun i j hi hj => by rw [nosK_get hk hi]; rfl
theorem cod_ok {k q : Nat} {l : List Sh} (hk : k ≤ l.length) (h1 : 1 ≤ k) (h2 : k ≤ 16) (hno : ∀ (i : Nat) (s : Sh), l[i]? = some s → 0 ≤ s.1 ∧ s.1 < ((k + q : Nat) : Int)) : dbOk (codM k q) (l.take k) = usedOk k l := by
  unfold dbOk
  rw [used_cod hk hno, used_inv l h1 h2]
theorem cod_R {k q n : Nat} {l : List Sh} (hk : k ≤ l.length) (h1 : 1 ≤ k) (h2 : k ≤ 16) (hno : ∀ (i : Nat) (s : Sh), l[i]? = some s → 0 ≤ s.1 ∧ s.1 < ((k + q : Nat) : Int)) : dbR (codM k q) (l.take k) n = decY k n l := by
  have e : ent (mkM k k (usedF k l)) = usedF k l := by rw [used_mk]; rfl
  have ht : (l.take k).length = k := by simp; omega
  unfold dbR decY
  rw [cod_ok hk h1 h2 hno, ht, used_cod hk hno]
  unfold invF decX
  rw [e, mkM_length]
  rfl
theorem SeenH.take {w : World} {A : Option Addr} {c : Nat} {l : List Sh} (h : SeenH w (.slice A l.length c) l) (k : Nat) (hk : k ≤ l.length) : SeenH w (.slice A k c) (l.take k) := by
  obtain ⟨A', c', e, h1, h2, h3⟩ := h
  simp only [Value.slice.injEq, true_and] at e
  obtain ⟨rfl, rfl⟩ := e
  have ht : (l.take k).length = k := by simp; omega
  refine ⟨A, c, by rw [ht], by omega, h2, fun h0 => ?_⟩
  rw [ht] at h0
  obtain ⟨b, off, e, hb, hc⟩ := h3 (by omega)
  refine ⟨b, off, e, hb, fun i s hs => hc i s ?_⟩
  rw [List.getElem?_take] at hs
  split at hs
  · exact hs
  · cases hs
end G294
namespace Go.Proofs.YtipmfebnjmobfaaDoor
open Go.RowKit Go.Shelf G294

set_option maxRecDepth 100000 in
set_option maxHeartbeats 4000000 in
theorem decodeShards_own (v : Value) (l : List Sh) (k m : Int) (w : World) (hv : SeenH w v l) (hln : l.length ≤ 1048576) (ht : Tab w) (h0 : 1 < w.heap.size) :
    Calls Tryd.prog 15 #[v, .int .i64 k, .int .i64 m] w (RetStrsOk 9 w (decR l k m) (decOk l k m)) := by
  have HV := Lib.hid hv
  have HTB := Lib.hid ht
  obtain ⟨A, cp, rfl, hlc, hcm, hx⟩ := hv
  unfold maxLen at hcm
  clear ht
  by_cases hs : shapeOk k m = true
  · have HS := Lib.hid hs
    have hbs := shapeOk_b hs
    obtain ⟨p, rfl⟩ := Int.eq_ofNat_of_zero_le (show 0 ≤ k by omega)
    obtain ⟨q, rfl⟩ := Int.eq_ofNat_of_zero_le (show 0 ≤ m by omega)
    have HR1 := Lib.hid (codR_yes hs)
    have hp8 : 1 ≤ p ∧ p ≤ 8 := by omega
    have hq6 : 1 ≤ q ∧ q ≤ 6 := by omega
    clear hs
    have HPRE : Hid (preOk l p q = (shardsOk l ((p + q : Nat) : Int) && decide (p ≤ l.length))) := by
      show preOk l p q = _
      unfold preOk
      rw [HS.out, show (p : Int) + (q : Int) = ((p + q : Nat) : Int) by omega]
      simp
    have HNO : Hid (shardsOk l ((p + q : Nat) : Int) = true → ∀ (i : Nat) (s : Sh), l[i]? = some s → 0 ≤ s.1 ∧ s.1 < ((p + q : Nat) : Int)) := fun h => shards_no (by rw [show (p : Int) + (q : Int) = ((p + q : Nat) : Int) by omega]; exact h)
    by_cases hlen : p ≤ l.length
    · have hlb : decide (l.length < p) = false := by simpa using hlen
      obtain ⟨b, off, rfl, hbl, hcell⟩ := hx (by omega)
      clear hx hcell
      generalize hL : l.length = Ln at *
      have HL := Lib.hid hL
      clear hL
      go_enter Tryd.func15, Tryd.ntmps15
      go_wp2_with fail
      refine (codeMatrix_own p q _ HTB.out h0).mono ?_
      rintro e w1 ⟨v1, vs1, rfl, hM1, k1⟩
      rw [HR1.out] at hM1
      rw [HS.out]
      have hpr : 0 < (codM p q).length := by simp [codM]; omega
      obtain ⟨g1, cp1, rfl, hg1, hg1', hcp1, hcp1'⟩ := hM1.slice hpr
      have hlr : (codM p q).length = p + q := by simp [codM]
      rw [hlr] at hM1 hcp1 ⊢
      clear hpr hlr
      generalize hr : p + q = r at *
      have HRR := Lib.hid hr
      clear hr
      have hs1 := k1.size
      have a1 := turn_alloc w1 (.cells #[.slice (some ⟨g1, 0, none⟩) r cp1] 60)
      have z1 := World.size_alloc w1 (.cells #[.slice (some ⟨g1, 0, none⟩) r cp1] 60)
      have c1 := alloc_cell w1 (.slice (some ⟨g1, 0, none⟩) r cp1) 60
      have hB1 : Below w.heap.size w (w1.alloc (.cells #[.slice (some ⟨g1, 0, none⟩) r cp1] 60)) := a1.base k1.to_below (by omega) (by omega)
      replace hM1 := hM1.keep a1 (by omega)
      go_wp2_with fail
      refine (goodShards_any _ l _ _ (HV.out.below hB1) (by rw [HL.out]; omega)).mono ?_
      rintro e w3 ⟨rfl, k3⟩
      have hs3 := k3.size
      have HB3 := Lib.hid (k3.base hB1 (by omega) (by omega))
      have HM3 := Lib.hid (hM1.keep k3 (by omega))
      have c3 := cell_turn k3 c1 (by omega)
      clear hM1 c1 a1 hB1 k3
      by_cases hsh : shardsOk l (r : Int) = true
      · have hpre : preOk l p q = true := by rw [HPRE.out, hsh]; simpa using hlen
        have HO := Lib.hid (decOk_yes hpre)
        have HR := Lib.hid (decR_yes hpre)
        have hno := HNO.out hsh
        have hno' : ∀ (i : Nat) (s : Sh), l[i]? = some s → 0 ≤ s.1 ∧ s.1 < ((p + q : Nat) : Int) := by rw [HRR.out]; exact hno
        have hl1 : p ≤ l.length := by rw [HL.out]; exact hlen
        have HDO := Lib.hid (cod_ok hl1 hp8.1 (by omega) hno')
        have HDR := Lib.hid (cod_R (n := lenH l) hl1 hp8.1 (by omega) hno')
        have HTX : Hid (∀ j, j < (l.take p).length → (((l.take p).map (·.2)).getD j []).length = lenH l) := fun j hj => by
          have hj' : j < p := by simp at hj; omega
          have : j < l.length := by omega
          have e := shards_len hsh j l[j] (List.getElem?_eq_getElem this)
          have e2 : ((l.take p).map (·.2)).getD j [] = l[j].2 := by simp [List.getD, this, hj']
          rw [e2]; exact e
        have h40 := shards_40 hsh
        have HNN : Hid (∀ i, i < ((l.take p).map (·.1)).length → 0 ≤ ((l.take p).map (·.1)).getD i 0 ∧ ((l.take p).map (·.1)).getD i 0 < ((codM p q).length : Int)) := fun i hi => by
          have hi' : i < p := by simp at hi; omega
          have hil : i < l.length := by omega
          have e2 : ((l.take p).map (·.1)).getD i 0 = l[i].1 := by simp [List.getD, hil, hi']
          rw [e2, show (codM p q).length = p + q by simp [codM]]
          exact hno' i l[i] (List.getElem?_eq_getElem hil)
        have HSV : Hid (∀ W, Below w.heap.size w W → SeenH W (.slice (some ⟨b, off, none⟩) p cp) (l.take p)) := fun W hb => SeenH.take (by rw [HL.out]; exact HV.out.below hb) p hl1
        have hpc : (p : Int) ≤ (cp : Int) := by omega
        have hp0 : (0 : Int) ≤ (p : Int) := by omega
        rw [hsh]
        clear hsh hno hno' hl1 hpre
        have hlt3 : w1.heap.size < w3.heap.size := by omega
        go_wp2_with fail
        go_region_held3 (fun w' => w'.cell? ⟨w1.heap.size, 0, none⟩ = some (.slice (some ⟨g1, 0, none⟩) r cp1))
          (first | exact c3)
          (first | (go_at_call 65; refine (decodedBy_own _ (codM p q) _ (l.take p) (lenH l) (World.drew w3) (show SeenM w3.drew _ _ from HM3.out.seen) (HSV.out _ HB3.out.drew) (by simp; omega) HNN.out HTX.out (by omega) (HTB.out.below HB3.out.drew h0) (show _ < w3.heap.size by have := HB3.out.size; omega)).mono ?_; rintro e w5 ⟨v5, rfl, o5, k5⟩; replace k5 := undrew k5; replace c3 := cell_turn k5 c3 hlt3))
        all_goals
          rw [HDO.out] at *
          rw [HDR.out] at *
          go_wp2_with fail
          go_ret2
          refine ⟨v5, by rw [HO.out]; rfl, ?_, TurnIn.of_below (k5.base HB3.out (by have := HB3.out.size; omega) (by omega))⟩
          rw [HR.out]
          exact ⟨own_base o5.1 (by show w.heap.size ≤ w3.heap.size; have := HB3.out.size; omega), o5.2⟩
      · have hsh' : shardsOk l (r : Int) = false := by simpa using hsh
        have hpre : preOk l p q = false := by rw [HPRE.out, hsh']; rfl
        have HO := Lib.hid (decOk_no hpre)
        have HR := Lib.hid (decR_no hpre)
        rw [hsh']
        clear hsh hsh' hpre
        go_wp2_with fail
        go_ret2
        exact ⟨.slice none 0 0, by rw [HO.out]; rfl, by rw [HR.out]; exact ⟨World.ownsRow_nil _ _ _ _, Nat.le_refl _, fun g e => by simp [Value.ownBlock] at e⟩, TurnIn.of_below HB3.out⟩
    · have hlb : decide (l.length < p) = true := by simpa using hlen
      clear hx
      have hpre : preOk l p q = false := by rw [HPRE.out]; simp; omega
      have HO := Lib.hid (decOk_no hpre)
      have HR := Lib.hid (decR_no hpre)
      clear hpre
      generalize hL : l.length = Ln at *
      clear hL
      go_enter Tryd.func15, Tryd.ntmps15
      go_wp2_with fail
      refine (codeMatrix_own p q _ HTB.out h0).mono ?_
      rintro e w1 ⟨v1, vs1, rfl, hM1, k1⟩
      obtain ⟨A1, n1, c1, rfl⟩ := hM1.isSlice
      rw [HS.out]
      have hs1 := k1.size
      have a1 := turn_alloc w1 (.cells #[.slice A1 n1 c1] 60)
      have hB1 : Below w.heap.size w (w1.alloc (.cells #[.slice A1 n1 c1] 60)) := a1.base k1.to_below (by omega) (by omega)
      clear hM1
      go_wp2_with fail
      go_ret2
      exact ⟨.slice none 0 0, by rw [HO.out]; rfl, by rw [HR.out]; exact ⟨World.ownsRow_nil _ _ _ _, Nat.le_refl _, fun g e => by simp [Value.ownBlock] at e⟩, TurnIn.of_below hB1⟩
  · have hs1 : shapeOk k m = false := by simpa using hs
    have HS := Lib.hid hs1
    have hpre : preOk l k m = false := by rw [preOk, hs1]; simp
    have HO := Lib.hid (decOk_no hpre)
    have HR := Lib.hid (decR_no hpre)
    clear hpre hs hs1 hx
    go_enter Tryd.func15, Tryd.ntmps15
    go_wp2_with fail
    refine (codeMatrix_own k m _ HTB.out h0).mono ?_
    rintro e w1 ⟨v1, vs1, rfl, hM1, k1⟩
    obtain ⟨A1, n1, c1, rfl⟩ := hM1.isSlice
    rw [HS.out]
    have hs1 := k1.size
    have a1 := turn_alloc w1 (.cells #[.slice A1 n1 c1] 60)
    have hB1 : Below w.heap.size w (w1.alloc (.cells #[.slice A1 n1 c1] 60)) := a1.base k1.to_below (by omega) (by omega)
    clear hM1
    go_wp2_with fail
    go_ret2
    exact ⟨.slice none 0 0, by rw [HO.out]; rfl, by rw [HR.out]; exact ⟨World.ownsRow_nil _ _ _ _, Nat.le_refl _, fun g e => by simp [Value.ownBlock] at e⟩, TurnIn.of_below hB1⟩

end Go.Proofs.YtipmfebnjmobfaaDoor
