/- Valid shards: the model's l3Shards. -/
import Derived.Test.YtipmfebnjmobfaaDoorGoodSh
set_option linter.unusedSimpArgs false
set_option linter.unusedVariables false
namespace G294
open Go Go.RowKit
/-- what is asked of shard i -/
def shAt (l : List Sh) (n : Int) (i : Nat) (s : Sh) : Prop := (lastNo l i < s.1 ∧ s.1 < n) ∧ s.2.length = (l.getD 0 (0, [])).2.length ∧ s.2.length ≤ 40
theorem shardsOk_iff (l : List Sh) (n : Int) : shardsOk l n = true ↔ ∀ (i : Nat) (s : Sh), l[i]? = some s → shAt l n i s := by
  unfold shardsOk shAt
  rw [Bool.and_eq_true, rises_at, textsOk_iff]
  have e0 : ((l.map (·.2)).getD 0 []).length = (l.getD 0 (0, [])).2.length := by cases l <;> simp
  rw [e0]
  constructor
  · rintro ⟨h1, h2⟩ i s hi
    obtain ⟨hl, rfl⟩ := List.getElem?_eq_some_iff.1 hi
    have := h2 i (by simpa using hl)
    exact ⟨h1 i _ hi, by simpa using this⟩
  · intro h
    refine ⟨fun i s hi => (h i s hi).1, fun i hi => ?_⟩
    have hl : i < l.length := by simpa using hi
    have := (h i l[i] (List.getElem?_eq_getElem hl)).2
    simpa using this
theorem shardsOk_false {l : List Sh} {n : Int} {i : Nat} {s : Sh} (hi : l[i]? = some s) (h : ¬ shAt l n i s) : shardsOk l n = false := by
  rw [Bool.eq_false_iff]
  intro ht
  exact h ((shardsOk_iff l n).1 ht i s hi)
end G294
namespace Go.Proofs.YtipmfebnjmobfaaDoor
open Go.RowKit G294

set_option maxRecDepth 100000 in
set_option maxHeartbeats 4000000 in
theorem l3Shards_any (v : Value) (l : List Sh) (m : Int) (w : World) (hv : SeenH w v l) (hm : 0 ≤ m ∧ m ≤ 1000) : Calls Tryd.prog 61 #[v, .int .i64 m] w (RetBool w (shardsOk l m)) := by
  obtain ⟨A, c, rfl, hlc, hcm, hx⟩ := hv
  unfold maxLen at hcm
  generalize hnn : l.length = n at *
  have HN := Lib.hid hnn
  clear hnn
  go_enter Tryd.func61, Tryd.ntmps61
  go_wp2_with fail
  go_loopw [9] (fun i wr => ∃ k : Nat, k ≤ n ∧ i = .int .i64 k ∧ Hid (-1 ≤ lastNo l k) ∧ Hid (∀ (j : Nat) (s : Sh), l[j]? = some s → j < k → shAt l m j s) ∧ Below w.heap.size w wr)
    (fun i _ => n - (intOf i).toNat)
  case atStart => exact ⟨0, Nat.zero_le _, rfl, by show -1 ≤ lastNo l 0; simp [lastNo], (fun j s hj h => by omega), Below.refl _ _⟩
  case round =>
    obtain ⟨k, hk, rfl, HLA, HE, hb⟩ := hrel
    by_cases hlt : k < n
    · obtain ⟨b, off, rfl, hbl, hcell⟩ := hx (by omega)
      obtain ⟨⟨no, s⟩, hks⟩ := at_lt HN.out hlt
      obtain ⟨⟨no0, s0⟩, hk0⟩ := at_lt (k := 0) HN.out (by omega)
      have hc1 := (hb.cell (p := ⟨b, off + k * 2, none⟩) hbl).trans (hcell k _ hks).1
      have hc2 := (hb.cell (p := ⟨b, off + k * 2 + 1, none⟩) hbl).trans (hcell k _ hks).2
      have hc0 := (hb.cell (p := ⟨b, off + 0 * 2 + 1, none⟩) hbl).trans (hcell 0 _ hk0).2
      simp only [Nat.zero_mul, Nat.add_zero] at hc1 hc2 hc0
      have hki : (k : Int) < (n : Int) := by omega
      have hbs := hb.size
      have k1 := turn_alloc wr (.cells #[.int .i64 no, .string (str s)] 35)
      have hb2 := hb.alloc hb.size (.cells #[.int .i64 no, .string (str s)] 35)
      have d0 := cell_turn k1 hc0 (by omega)
      have x1 : (wr.alloc (.cells #[.int .i64 no, .string (str s)] 35)).cell? ⟨wr.heap.size, 0, none⟩ = some (.int .i64 no) := by simp
      have x2 : (wr.alloc (.cells #[.int .i64 no, .string (str s)] 35)).cell? ⟨wr.heap.size, 1, none⟩ = some (.string (str s)) := by simp
      have hz := str_size s
      have hz0 := str_size s0
      have HG0 : Hid ((l.getD 0 (0, [])).2.length = s0.length) := by show _ = _; simp [List.getD, hk0]
      have HKS := Lib.hid hks
      have hpj : ∀ j, k = j + 1 → ∃ pn : Int, pn = lastNo l k ∧ (wr.alloc (.cells #[.int .i64 no, .string (str s)] 35)).cell? ⟨b, off + j * 2, none⟩ = some (.int .i64 pn) := fun j hj => by
        obtain ⟨⟨pn, ps⟩, hjs⟩ := at_lt (k := j) HN.out (by omega)
        exact ⟨pn, by rw [hj, lastNo_succ hjs], cell_turn k1 ((hb.cell (p := ⟨b, off + j * 2, none⟩) hbl).trans (hcell j _ hjs).1) (by omega)⟩
      have HPJ := Lib.hid hpj
      clear hcell hx hks hk0 hpj hc0 k1
      by_cases hA : 0 ≤ no ∧ no ≤ m - 1
      · have HI : Hid (inB no 0 (m - 1) = true) := by show inB no 0 (m - 1) = true; simp [inB]; omega
        have HC := Lib.hid (fun W : World => HI.out ▸ l1In_any no 0 (m - 1) W)
        rcases Nat.eq_zero_or_pos k with hk0 | hkp
        · subst hk0
          simp only [Nat.zero_mul, Nat.add_zero] at hc1 hc2
          have t0 : decide ((0 : Int) < ((0 : Nat) : Int)) = false := by simp
          have HRI : Hid (lastNo l 0 < no ∧ no < m) := by show lastNo l 0 < no ∧ no < m; simp only [lastNo]; omega
          by_cases hC : s.length = s0.length
          · by_cases hD : s.length ≤ 40
            · have HK : Hid (∀ (jj : Nat) (s : Sh), l[jj]? = some s → jj < 0 + 1 → shAt l m jj s) := fun jj s' hj h => by
                rcases Nat.lt_or_ge jj (0) with h' | h'
                · exact HE.out jj s' hj h'
                · obtain rfl : jj = 0 := by omega
                  obtain rfl : (no, s) = s' := Option.some.inj (HKS.out.symm.trans hj)
                  exact ⟨HRI.out, by rw [HG0.out]; exact hC, hD⟩
              have HL2 : Hid (-1 ≤ lastNo l (0 + 1)) := by show -1 ≤ _; rw [lastNo_succ HKS.out]; show (-1 : Int) ≤ no; omega
              generalize s.length = z at *
              generalize s0.length = z0 at *
              subst hC
              have tC : ((z : Int) != (z : Int)) = false := by simp
              have tD : decide ((40 : Int) < (z : Int)) = false := by simp; omega
              have tD' : decide (40 < z) = false := by simp; omega
              go_wp2_with fail
              go_quiet ((go_at_call 67; exact quietly (HC.out _)))
              go_wp2_with fail
              go_roundw
              case rel => exact ⟨0 + 1, by omega, by go_num, HL2, HK, below_drewN hb2 _⟩
              case measure => simp [intOf]; omega
            · have HF : Hid (shardsOk l m = false) := shardsOk_false HKS.out (fun h => hD h.2.2)
              generalize s.length = z at *
              generalize s0.length = z0 at *
              subst hC
              have tC : ((z : Int) != (z : Int)) = false := by simp
              have tD : decide ((40 : Int) < (z : Int)) = true := by simp; omega
              have tD' : decide (40 < z) = true := by simp; omega
              go_wp2_with fail
              go_quiet ((go_at_call 67; exact quietly (HC.out _)))
              go_wp2_with fail
              go_ret
              exact ⟨by rw [HF.out]; rfl, TurnIn.of_below (below_drewN hb2 _)⟩
          · have HF : Hid (shardsOk l m = false) := shardsOk_false HKS.out (fun h => hC (by have h2 := h.2.1; rw [HG0.out] at h2; exact h2))
            generalize s.length = z at *
            generalize s0.length = z0 at *
            have tC : ((z : Int) != (z0 : Int)) = true := by simp; omega
            go_wp2_with fail
            go_quiet ((go_at_call 67; exact quietly (HC.out _)))
            go_wp2_with fail
            go_ret
            exact ⟨by rw [HF.out]; rfl, TurnIn.of_below (below_drewN hb2 _)⟩
        · obtain ⟨j, rfl⟩ : ∃ j, k = j + 1 := ⟨k - 1, by omega⟩
          obtain ⟨pn, hpn, hcp⟩ := HPJ.out j rfl
          have HPN := Lib.hid hpn
          clear hpn
          have tP : (0 : Int) < ((j + 1 : Nat) : Int) := by omega
          by_cases hB : pn < no
          · have tB : decide (no ≤ pn) = false := by simp; omega
            have HRI : Hid (lastNo l (j + 1) < no ∧ no < m) := by show lastNo l (j + 1) < no ∧ no < m; rw [← HPN.out]; omega
            by_cases hC : s.length = s0.length
            · by_cases hD : s.length ≤ 40
              · have HK : Hid (∀ (jj : Nat) (s : Sh), l[jj]? = some s → jj < j + 1 + 1 → shAt l m jj s) := fun jj s' hj h => by
                  rcases Nat.lt_or_ge jj (j + 1) with h' | h'
                  · exact HE.out jj s' hj h'
                  · obtain rfl : jj = j + 1 := by omega
                    obtain rfl : (no, s) = s' := Option.some.inj (HKS.out.symm.trans hj)
                    exact ⟨HRI.out, by rw [HG0.out]; exact hC, hD⟩
                have HL2 : Hid (-1 ≤ lastNo l (j + 1 + 1)) := by show -1 ≤ _; rw [lastNo_succ HKS.out]; show (-1 : Int) ≤ no; omega
                generalize s.length = z at *
                generalize s0.length = z0 at *
                subst hC
                have tC : ((z : Int) != (z : Int)) = false := by simp
                have tD : decide ((40 : Int) < (z : Int)) = false := by simp; omega
                have tD' : decide (40 < z) = false := by simp; omega
                go_wp2_with fail
                go_quiet ((go_at_call 67; exact quietly (HC.out _)))
                go_wp2_with fail
                go_roundw
                case rel => exact ⟨j + 1 + 1, by omega, by go_num, HL2, HK, below_drewN hb2 _⟩
                case measure => simp [intOf]; omega
              · have HF : Hid (shardsOk l m = false) := shardsOk_false HKS.out (fun h => hD h.2.2)
                generalize s.length = z at *
                generalize s0.length = z0 at *
                subst hC
                have tC : ((z : Int) != (z : Int)) = false := by simp
                have tD : decide ((40 : Int) < (z : Int)) = true := by simp; omega
                have tD' : decide (40 < z) = true := by simp; omega
                go_wp2_with fail
                go_quiet ((go_at_call 67; exact quietly (HC.out _)))
                go_wp2_with fail
                go_ret
                exact ⟨by rw [HF.out]; rfl, TurnIn.of_below (below_drewN hb2 _)⟩
            · have HF : Hid (shardsOk l m = false) := shardsOk_false HKS.out (fun h => hC (by have h2 := h.2.1; rw [HG0.out] at h2; exact h2))
              generalize s.length = z at *
              generalize s0.length = z0 at *
              have tC : ((z : Int) != (z0 : Int)) = true := by simp; omega
              go_wp2_with fail
              go_quiet ((go_at_call 67; exact quietly (HC.out _)))
              go_wp2_with fail
              go_ret
              exact ⟨by rw [HF.out]; rfl, TurnIn.of_below (below_drewN hb2 _)⟩
          · have tB : decide (no ≤ pn) = true := by simp; omega
            have HF : Hid (shardsOk l m = false) := shardsOk_false HKS.out (fun h => hB (by have h2 : lastNo l (j + 1) < no := h.1.1; rw [← HPN.out] at h2; exact h2))
            go_wp2_with fail
            go_quiet ((go_at_call 67; exact quietly (HC.out _)))
            go_wp2_with fail
            go_ret
            exact ⟨by rw [HF.out]; rfl, TurnIn.of_below (below_drewN hb2 _)⟩
      · have HI : Hid (inB no 0 (m - 1) = false) := by show inB no 0 (m - 1) = false; simp [inB]; omega
        have HC := Lib.hid (fun W : World => HI.out ▸ l1In_any no 0 (m - 1) W)
        have HF : Hid (shardsOk l m = false) := by
          show shardsOk l m = false
          refine shardsOk_false HKS.out (fun h => ?_)
          have h1 : lastNo l k < no ∧ no < m := h.1
          have h2 := HLA.out
          omega
        go_wp2_with fail
        go_quiet ((go_at_call 67; exact quietly (HC.out _)))
        go_wp2_with fail
        go_ret
        exact ⟨by rw [HF.out]; rfl, TurnIn.of_below (below_drewN hb2 _)⟩
    · obtain rfl : k = n := by omega
      have hki : ¬ (k : Int) < (k : Int) := by omega
      have HF : Hid (shardsOk l m = true) := (shardsOk_iff l m).2 fun j s hj => HE.out j s hj (by have := (List.getElem?_eq_some_iff.1 hj).1; rw [HN.out] at this; exact this)
      go_wp2_with fail
      go_ret
      exact ⟨by rw [HF.out]; rfl, TurnIn.of_below hb⟩

end Go.Proofs.YtipmfebnjmobfaaDoor
