/- Joined texts: EncLoc, ShardHeld. -/
import Derived.Test.YtlkoafnlklhaeaaDoorBd13
import Derived.Test.YtlkoafnlklhaeaaDoorBd07
import Derived.Test.YtlkoafnlklhaeaaDoorBd10
import Derived.Test.YtlkoafnlklhaeaaDoorBd03
import Derived.Deep.RegionLaw
set_option linter.unusedSimpArgs false
set_option linter.unusedVariables false
/- EncodeLocal, the program's and the model's. -/
namespace G294
open Go Go.RowKit
def encLOk (g e q : Int) (T : List (List UInt8)) : Bool := locOk g e q && ((T.length : Int) == g * e) && textsOk T
def encLL (g e q : Nat) (T : List (List UInt8)) : List Sh := shardsF (g * e + g + q) (g * e) (T.getD 0 []).length (locF (g * e) e g) T
def encLR (g e q : Int) (T : List (List UInt8)) : List Sh := if encLOk g e q T = true then encLL g.toNat e.toNat q.toNat T else []
theorem encLR_no {g e q : Int} {T : List (List UInt8)} (h : encLOk g e q T = false) : encLR g e q T = [] := if_neg (by rw [h]; simp)
theorem encLR_yes {g e q : Nat} {T : List (List UInt8)} (h : encLOk g e q T = true) : encLR g e q T = encLL g e q T := by unfold encLR; rw [if_pos h]; simp
theorem encLR_len (g e q : Int) (T : List (List UInt8)) : (encLR g e q T).length ≤ 16 := by
  unfold encLR; split
  · rename_i h
    simp only [encLOk, Bool.and_eq_true] at h
    have hb := locOk_b h.1.1
    obtain ⟨g, rfl⟩ := Int.eq_ofNat_of_zero_le (show 0 ≤ g by omega)
    obtain ⟨e, rfl⟩ := Int.eq_ofNat_of_zero_le (show 0 ≤ e by omega)
    obtain ⟨q, rfl⟩ := Int.eq_ofNat_of_zero_le (show 0 ≤ q by omega)
    rw [← Int.natCast_mul] at hb
    simp only [Int.toNat_natCast, encLL, shardsF_length]; omega
  · simp
end G294
namespace Go.Proofs.YtlkoafnlklhaeaaDoor
open Go.RowKit G294

set_option maxRecDepth 100000 in
set_option maxHeartbeats 4000000 in
theorem encodeLocal_own (g e q : Int) (v : Value) (T : List (List UInt8)) (w : World) (hv : Seen w v (strs T)) (ht : Tab w) (h0 : 1 < w.heap.size) :
    Calls Tryd.prog 51 #[locV g e q, v] w (RetShsOk 91 w (encLR g e q T) (encLOk g e q T)) := by
  have a1 := turn_alloc w (.cells #[.int .i64 g, .int .i64 e, .int .i64 q] 73)
  have z1 := World.size_alloc w (.cells #[.int .i64 g, .int .i64 e, .int .i64 q] 73)
  have cg := alloc_tri0 w (.int .i64 g) (.int .i64 e) (.int .i64 q) 73
  have ce := alloc_tri1 w (.int .i64 g) (.int .i64 e) (.int .i64 q) 73
  have cq := alloc_tri2 w (.int .i64 g) (.int .i64 e) (.int .i64 q) 73
  have HV := Lib.hid hv
  obtain ⟨A, cp, hvv⟩ := hv.len
  rw [strs_length] at hvv
  subst hvv
  clear hv
  have HT1 := Lib.hid (ht.below a1.to_below h0)
  by_cases h : locOk g e q = true
  · have hb := locOk_b h
    have HL := Lib.hid h
    obtain ⟨⟨hg, he⟩, hq, hd1, hd2⟩ := hb
    obtain ⟨g, rfl⟩ := Int.eq_ofNat_of_zero_le (show 0 ≤ g by omega)
    obtain ⟨e, rfl⟩ := Int.eq_ofNat_of_zero_le (show 0 ≤ e by omega)
    obtain ⟨q, rfl⟩ := Int.eq_ofNat_of_zero_le (show 0 ≤ q by omega)
    have HR0 := Lib.hid (locR_yes h)
    obtain ⟨d, hd⟩ : ∃ d, d = g * e := ⟨_, rfl⟩
    have HGE : Hid ((g : Int) * (e : Int) = (d : Int)) := by show _ = _; rw [← Int.natCast_mul, hd]
    rw [HGE.out] at hd1 hd2
    have HDE : Hid (g * e = d) := hd.symm
    clear h hd
    by_cases hlen : T.length = d
    · have hne : (((T.length : Nat) : Int) != (d : Int)) = false := by rw [hlen]; simp
      have HLN := Lib.hid hlen
      have heq : (((T.length : Nat) : Int) == (g : Int) * (e : Int)) = true := by rw [HGE.out, hlen]; simp
      have HEQ := Lib.hid heq
      clear heq
      by_cases htx : textsOk T = true
      · have HTX := Lib.hid htx
        have HO : Hid (encLOk g e q T = true) := by show encLOk _ _ _ _ = true; simp only [encLOk, HL.out, HEQ.out, htx, Bool.true_and]
        have HR := Lib.hid (encLR_yes HO.out)
        have HAT := Lib.hid (textsOk_at htx)
        have hn40 := textsOk_first htx
        rw [hlen] at HAT hne ⊢
        generalize hnn : (T.getD 0 []).length = n at *
        have HNN := Lib.hid hnn
        clear htx hlen hnn
        rw [HLN.out] at HV
        go_enter Tryd.func51, Tryd.ntmps51
        go_wp2_with fail
        refine (localMatrix_own (g : Int) (e : Int) (q : Int) _ HT1.out (by omega)).mono ?_
        rintro e' w2 ⟨v2, vs2, rfl, hM, k2⟩
        rw [HL.out]
        rw [HR0.out] at hM
        obtain ⟨A2, n2, c2, rfl⟩ := hM.isSlice
        have s2 := k2.size
        have a3 := turn_alloc w2 (.cells #[.slice A2 n2 c2] 70)
        have z3 := World.size_alloc w2 (.cells #[.slice A2 n2 c2] 70)
        have c3 := alloc_cell w2 (.slice A2 n2 c2) 70
        have k3 := turn_trans k2 a3 (by omega)
        have HSM := Lib.hid ((hM.keep a3 (by omega)).seen)
        replace cg := cell_turn k3 cg (by omega)
        replace ce := cell_turn k3 ce (by omega)
        replace cq := cell_turn k3 cq (by omega)
        have k3' := turn_trans a1 k3 (by omega)
        clear hM a3
        go_wp2_with fail
        refine (localData_any (g : Int) (e : Int) (q : Int) _ (by rw [HGE.out]; omega)).mono ?_
        rintro e' w4 ⟨rfl, k4⟩
        rw [HGE.out]
        have s4 := k4.size
        replace c3 := cell_turn k4 c3 (by omega)
        have k4' := turn_trans k3' k4 (by omega)
        have HV4 := Lib.hid (HV.out.below k4'.to_below)
        go_wp2_with fail
        refine (equallyLong_any _ T _ HV4.out).mono ?_
        rintro e' w' ⟨rfl, rfl⟩
        rw [HTX.out]
        go_wp2_with fail
        refine (shardsBy_any _ _ _ _ _).mono ?_
        rintro e' w' ⟨rfl, rfl⟩
        have k6 : TurnIn 0 0 w4 ((w4.alloc (.cells #[.slice A2 n2 c2] 70)).alloc (.cells #[.slice A d cp] 78)) := turn_trans (turn_alloc _ _) (turn_alloc _ _) (by omega)
        have z6 : ((w4.alloc (.cells #[.slice A2 n2 c2] 70)).alloc (.cells #[.slice A d cp] 78)).heap.size = w4.heap.size + 2 := by simp
        have m6 : ((w4.alloc (.cells #[.slice A2 n2 c2] 70)).alloc (.cells #[.slice A d cp] 78)).cell? ⟨w4.heap.size, 0, none⟩ = some (.slice A2 n2 c2) := cell_turn (turn_alloc _ _) (alloc_cell _ _ _) (alloc_lt _ _)
        have t6 : ((w4.alloc (.cells #[.slice A2 n2 c2] 70)).alloc (.cells #[.slice A d cp] 78)).cell? ⟨w4.heap.size + 1, 0, none⟩ = some (.slice A d cp) := by have := alloc_cell (w4.alloc (.cells #[.slice A2 n2 c2] 70)) (.slice A d cp) 78; rwa [World.size_alloc] at this
        have k6' := turn_trans k4' k6 (by omega)
        have HS6 : Hid (SeenM ((w4.alloc (.cells #[.slice A2 n2 c2] 70)).alloc (.cells #[.slice A d cp] 78)) (.slice A2 n2 c2) (mkM (d + g + q) d (locF d e g))) := by
          have := (HSM.out.touch k4).touch k6
          unfold locM at this; rwa [HDE.out] at this
        have HM6 := Lib.hid m6
        have HT6 := Lib.hid t6
        have HZ6 := Lib.hid z6
        have HTB := Lib.hid (ht.below k6'.to_below h0)
        clear m6 t6 z6
        go_wp2_with fail
        refine (collect_own (d + g + q) d n w4.heap.size (w4.heap.size + 1) (locF d e g) T _ _ _ HLN.out (by omega) (by omega) (by omega) HAT.out (by omega) (by rw [HZ6.out]; omega) (by rw [HZ6.out]; omega) HM6.out HT6.out HS6.out (HV4.out.touch k6) HTB.out (by rw [HZ6.out]; omega)).mono ?_
        rintro e' w7 ⟨v7, rfl, hO7, k7⟩
        have s7 := k7.size
        have HO7 := Lib.hid hO7
        clear hO7
        go_wp2_with fail
        go_ret2
        refine ⟨_, by rw [HO.out]; rfl, ?_, turn_trans k6' k7 (by omega)⟩
        rw [HR.out, encLL, HDE.out, HNN.out]
        exact ⟨own_base HO7.out.1 (by rw [HZ6.out]; omega), HO7.out.2.1, HO7.out.2.2⟩
      · have HTX : Hid (textsOk T = false) := by show textsOk T = false; simpa using htx
        have HO : Hid (encLOk g e q T = false) := by show encLOk _ _ _ _ = false; simp only [encLOk, HTX.out, Bool.and_false]
        have HR := Lib.hid (encLR_no HO.out)
        rw [hlen] at hne ⊢
        rw [HLN.out] at HV
        clear htx hlen
        go_enter Tryd.func51, Tryd.ntmps51
        go_wp2_with fail
        refine (localMatrix_own (g : Int) (e : Int) (q : Int) _ HT1.out (by omega)).mono ?_
        rintro e' w2 ⟨v2, vs2, rfl, hM, k2⟩
        rw [HL.out]
        obtain ⟨A2, n2, c2, rfl⟩ := hM.isSlice
        have s2 := k2.size
        have a3 := turn_alloc w2 (.cells #[.slice A2 n2 c2] 70)
        have z3 := World.size_alloc w2 (.cells #[.slice A2 n2 c2] 70)
        have k3 := turn_trans k2 a3 (by omega)
        replace cg := cell_turn k3 cg (by omega)
        replace ce := cell_turn k3 ce (by omega)
        replace cq := cell_turn k3 cq (by omega)
        have k3' := turn_trans a1 k3 (by omega)
        clear hM a3
        go_wp2_with fail
        refine (localData_any (g : Int) (e : Int) (q : Int) _ (by rw [HGE.out]; omega)).mono ?_
        rintro e' w4 ⟨rfl, k4⟩
        rw [HGE.out]
        have s4 := k4.size
        have k4' := turn_trans k3' k4 (by omega)
        have HV4 := Lib.hid (HV.out.below k4'.to_below)
        go_wp2_with fail
        refine (equallyLong_any _ T _ HV4.out).mono ?_
        rintro e' w' ⟨rfl, rfl⟩
        rw [HTX.out]
        go_wp2_with fail
        go_ret2
        exact ⟨.slice none 0 0, by rw [HO.out]; rfl, by rw [HR.out]; exact OwnSh.nil _ _ _, k4'⟩
    · have hne : (((T.length : Nat) : Int) != (d : Int)) = true := by simp; omega
      have HO : Hid (encLOk g e q T = false) := by
        show encLOk _ _ _ _ = false
        have e1 : (((T.length : Nat) : Int) == (g : Int) * (e : Int)) = false := by rw [HGE.out]; simp; omega
        simp only [encLOk, e1, Bool.and_false, Bool.false_and]
      have HR := Lib.hid (encLR_no HO.out)
      clear hlen
      go_enter Tryd.func51, Tryd.ntmps51
      go_wp2_with fail
      refine (localMatrix_own (g : Int) (e : Int) (q : Int) _ HT1.out (by omega)).mono ?_
      rintro e' w2 ⟨v2, vs2, rfl, hM, k2⟩
      rw [HL.out]
      obtain ⟨A2, n2, c2, rfl⟩ := hM.isSlice
      have s2 := k2.size
      have a3 := turn_alloc w2 (.cells #[.slice A2 n2 c2] 70)
      have z3 := World.size_alloc w2 (.cells #[.slice A2 n2 c2] 70)
      have k3 := turn_trans k2 a3 (by omega)
      replace cg := cell_turn k3 cg (by omega)
      replace ce := cell_turn k3 ce (by omega)
      replace cq := cell_turn k3 cq (by omega)
      have k3' := turn_trans a1 k3 (by omega)
      clear hM a3
      go_wp2_with fail
      refine (localData_any (g : Int) (e : Int) (q : Int) _ (by rw [HGE.out]; omega)).mono ?_
      rintro e' w4 ⟨rfl, k4⟩
      rw [HGE.out]
      have s4 := k4.size
      have k4' := turn_trans k3' k4 (by omega)
      go_wp2_with fail
      go_ret2
      exact ⟨.slice none 0 0, by rw [HO.out]; rfl, by rw [HR.out]; exact OwnSh.nil _ _ _, k4'⟩
  · have HL : Hid (locOk g e q = false) := by show locOk g e q = false; simpa using h
    have HO : Hid (encLOk g e q T = false) := by show encLOk _ _ _ _ = false; simp only [encLOk, HL.out, Bool.false_and]
    have HR := Lib.hid (encLR_no HO.out)
    clear h
    go_enter Tryd.func51, Tryd.ntmps51
    go_wp2_with fail
    refine (localMatrix_own g e q _ HT1.out (by omega)).mono ?_
    rintro e' w2 ⟨v2, vs2, rfl, hM, k2⟩
    rw [HL.out]
    obtain ⟨A2, n2, c2, rfl⟩ := hM.isSlice
    have s2 := k2.size
    have a3 := turn_alloc w2 (.cells #[.slice A2 n2 c2] 70)
    have z3 := World.size_alloc w2 (.cells #[.slice A2 n2 c2] 70)
    have k3 := turn_trans k2 a3 (by omega)
    replace cg := cell_turn k3 cg (by omega)
    replace ce := cell_turn k3 ce (by omega)
    replace cq := cell_turn k3 cq (by omega)
    have k3' := turn_trans a1 k3 (by omega)
    clear hM a3
    go_wp2_with fail
    go_ret2
    exact ⟨.slice none 0 0, by rw [HO.out]; rfl, by rw [HR.out]; exact OwnSh.nil _ _ _, k3'⟩

set_option maxRecDepth 100000 in
set_option maxHeartbeats 4000000 in
theorem sEncodeLocal_own (g e q : Int) (v : Value) (T : List (List UInt8)) (w : World) (hv : Seen w v (strs T)) :
    Calls Tryd.prog 49 #[locV g e q, v] w (RetShsOk 91 w (encLR g e q T) (encLOk g e q T)) := by
  have a1 := turn_alloc w (.cells #[.int .i64 g, .int .i64 e, .int .i64 q] 73)
  have z1 := World.size_alloc w (.cells #[.int .i64 g, .int .i64 e, .int .i64 q] 73)
  have cg := alloc_tri0 w (.int .i64 g) (.int .i64 e) (.int .i64 q) 73
  have ce := alloc_tri1 w (.int .i64 g) (.int .i64 e) (.int .i64 q) 73
  have cq := alloc_tri2 w (.int .i64 g) (.int .i64 e) (.int .i64 q) 73
  have HV := Lib.hid hv
  obtain ⟨A, cp, hvv⟩ := hv.len
  rw [strs_length] at hvv
  subst hvv
  clear hv
  by_cases h : locOk g e q = true
  · have hb := locOk_b h
    have HL := Lib.hid h
    obtain ⟨⟨hg, he⟩, hq, hd1, hd2⟩ := hb
    obtain ⟨g, rfl⟩ := Int.eq_ofNat_of_zero_le (show 0 ≤ g by omega)
    obtain ⟨e, rfl⟩ := Int.eq_ofNat_of_zero_le (show 0 ≤ e by omega)
    obtain ⟨q, rfl⟩ := Int.eq_ofNat_of_zero_le (show 0 ≤ q by omega)
    have HR0 := Lib.hid (locR_yes h)
    obtain ⟨d, hd⟩ : ∃ d, d = g * e := ⟨_, rfl⟩
    have HGE : Hid ((g : Int) * (e : Int) = (d : Int)) := by show _ = _; rw [← Int.natCast_mul, hd]
    rw [HGE.out] at hd1 hd2
    have HDE : Hid (g * e = d) := hd.symm
    clear h hd
    by_cases hlen : T.length = d
    · have hne : (((T.length : Nat) : Int) != (d : Int)) = false := by rw [hlen]; simp
      have HLN := Lib.hid hlen
      have heq : (((T.length : Nat) : Int) == (g : Int) * (e : Int)) = true := by rw [HGE.out, hlen]; simp
      have HEQ := Lib.hid heq
      clear heq
      by_cases htx : textsOk T = true
      · have HTX := Lib.hid htx
        have HO : Hid (encLOk g e q T = true) := by show encLOk _ _ _ _ = true; simp only [encLOk, HL.out, HEQ.out, htx, Bool.true_and]
        have HR := Lib.hid (encLR_yes HO.out)
        have HAT := Lib.hid (textsOk_at htx)
        have hn40 := textsOk_first htx
        rw [hlen] at HAT hne ⊢
        generalize hnn : (T.getD 0 []).length = n at *
        have HNN := Lib.hid hnn
        clear htx hlen hnn
        rw [HLN.out] at HV
        go_enter Tryd.func49, Tryd.ntmps49
        go_wp2_with fail
        refine (sGoodLocal_any (g : Int) (e : Int) (q : Int) _).mono ?_
        rintro e' w2 ⟨rfl, k2⟩
        rw [HL.out]
        have s2 := k2.size
        replace cg := cell_turn k2 cg (by omega)
        replace ce := cell_turn k2 ce (by omega)
        replace cq := cell_turn k2 cq (by omega)
        have k2' := turn_trans a1 k2 (by omega)
        go_wp2_with fail
        refine (l4Data_any (g : Int) (e : Int) (q : Int) _ (by rw [HGE.out]; omega)).mono ?_
        rintro e' w4 ⟨rfl, k4⟩
        rw [HGE.out]
        have s4 := k4.size
        replace cg := cell_turn k4 cg (by omega)
        replace ce := cell_turn k4 ce (by omega)
        replace cq := cell_turn k4 cq (by omega)
        have k4' := turn_trans k2' k4 (by omega)
        have HV4 := Lib.hid (HV.out.below k4'.to_below)
        go_wp2_with fail
        refine (l3Texts_any _ T _ HV4.out).mono ?_
        rintro e' w' ⟨rfl, rfl⟩
        rw [HTX.out]
        go_wp2_with fail
        refine (l4Matrix_own g e q d _ (by omega) (by omega) (by omega) (by omega) HDE).mono ?_
        rintro e' w5 ⟨v5, vs5, rfl, hM5, k5⟩
        have s5 := k5.size
        obtain ⟨A5, n5, c5, rfl⟩ := hM5.isSlice
        have HS5 : Hid (SeenM w5 (.slice A5 n5 c5) (mkM (d + g + q) d (locF d e g))) := by have := hM5.seen; unfold locM at this; rwa [HDE.out] at this
        have k5' := turn_trans k4' k5 (by omega)
        clear hM5
        go_wp2_with fail
        refine (l3Rows_own (d + g + q) d n (locF d e g) T _ _ _ HS5.out (HV4.out.touch k5) HLN.out (by omega) (by omega) (by omega) HAT.out (by omega)).mono ?_
        rintro e' w6 ⟨v6, rfl, hO6, k6⟩
        have s6 := k6.size
        have hB6 : Below w.heap.size w w6 := k6.base k5'.to_below (by omega) (by omega)
        obtain ⟨A6, c6, rfl, hlc6, hcm6, hx6⟩ := hO6.seen
        rw [strs_length, rowsT_length] at hlc6 hx6
        rw [strs_length, rowsT_length]
        obtain ⟨b, off, rfl, hbl, hcell⟩ := hx6 (by omega)
        have HC : Hid (∀ j, j < d + g + q → w6.cell? ⟨b, off + j, none⟩ = some (.string (str (comb d n (locF d e g j) T)))) := fun j hj => by
          refine hcell j _ ?_
          simp only [strs, List.getElem?_map, shards_rows _ _ _ _ _ _ hj, Option.map_some]
        unfold maxLen at hcm6
        clear hcell hx6 hO6
        generalize hrr : d + g + q = r at *
        have HRR := Lib.hid hrr
        have hr16 : r ≤ 16 := by omega
        clear hrr
        go_wp2_with fail
        go_loopw [6, 29] (fun o i wr => ∃ j : Nat, j ≤ r ∧ i = .int .i64 j ∧ wr.ownsRow w6.heap.size 91 2 o j (shs ((shardsF r d n (locF d e g) T).take j)) ∧ Below w6.heap.size w6 wr)
          (fun _ i _ => r - (intOf i).toNat)
        case atStart => exact ⟨0, Nat.zero_le _, rfl, World.ownsRow_nil _ _ _ _, Below.refl _ _⟩
        case round =>
          obtain ⟨j, hj, rfl, hown, hb⟩ := hrel
          have hbs2 := hb.size
          by_cases hlt : j < r
          · have hji : (j : Int) < (r : Int) := by omega
            have hcx := (hb.cell (p := ⟨b, off + j, none⟩) hbl).trans (HC.out j hlt)
            go_wp2_with (at_builtin; refine wpList_append2 rfl _ _ _ rfl w6.heap.size 91 _ _ Tryd.underlying80 infoShard rfl _ j _ rfl (hown.alloc _) wr.heap.size (.int .i64 j) (.string (str (comb d n (locF d e g j) T))) rfl ?c1 ?c5 rfl rfl ?c2 ?c3 ?c4 ?_)
            case c1 => simp
            case c5 => simp
            case c2 => omega
            case c3 => omega
            case c4 => simp; omega
            intro v' w' hown' hg' _
            have hb' : Below w6.heap.size w6 w' := below_append (hb.alloc hbs2 _) (hown.alloc _) hg' (Nat.le_refl _) (by simp; omega)
            have hown3 : w'.ownsRow w6.heap.size 91 2 v' (j + 1) (shs ((shardsF r d n (locF d e g) T).take (j + 1))) := by
              rw [shardsF_take _ _ _ _ _ _ hlt, shs_append]; exact hown'
            clear hown' hg'
            go_wp2_with fail
            go_roundw
            case rel => exact ⟨j + 1, by omega, by go_num, hown3, hb'⟩
            case measure => simp [intOf]; omega
          · obtain rfl : j = r := by omega
            have hji : ¬ (j : Int) < (j : Int) := by omega
            go_wp2_with fail
            go_ret2
            refine ⟨_, by rw [HO.out]; rfl, ?_, TurnIn.of_below (hB6.trans (hb.mono (by omega)))⟩
            rw [List.take_of_length_le (by simp)] at hown
            rw [HR.out, encLL, HDE.out, HNN.out, HRR.out]
            exact OwnSh.of_made (w := w) (own_base (by simpa using hown) (by omega))
      · have HTX : Hid (textsOk T = false) := by show textsOk T = false; simpa using htx
        have HO : Hid (encLOk g e q T = false) := by show encLOk _ _ _ _ = false; simp only [encLOk, HTX.out, Bool.and_false]
        have HR := Lib.hid (encLR_no HO.out)
        rw [hlen] at hne ⊢
        rw [HLN.out] at HV
        clear htx hlen
        go_enter Tryd.func49, Tryd.ntmps49
        go_wp2_with fail
        refine (sGoodLocal_any (g : Int) (e : Int) (q : Int) _).mono ?_
        rintro e' w2 ⟨rfl, k2⟩
        rw [HL.out]
        have s2 := k2.size
        replace cg := cell_turn k2 cg (by omega)
        replace ce := cell_turn k2 ce (by omega)
        replace cq := cell_turn k2 cq (by omega)
        have k2' := turn_trans a1 k2 (by omega)
        go_wp2_with fail
        refine (l4Data_any (g : Int) (e : Int) (q : Int) _ (by rw [HGE.out]; omega)).mono ?_
        rintro e' w4 ⟨rfl, k4⟩
        rw [HGE.out]
        have s4 := k4.size
        replace cg := cell_turn k4 cg (by omega)
        replace ce := cell_turn k4 ce (by omega)
        replace cq := cell_turn k4 cq (by omega)
        have k4' := turn_trans k2' k4 (by omega)
        have HV4 := Lib.hid (HV.out.below k4'.to_below)
        go_wp2_with fail
        refine (l3Texts_any _ T _ HV4.out).mono ?_
        rintro e' w' ⟨rfl, rfl⟩
        rw [HTX.out]
        go_wp2_with fail
        go_ret2
        exact ⟨.slice none 0 0, by rw [HO.out]; rfl, by rw [HR.out]; exact OwnSh.nil _ _ _, k4'⟩
    · have hne : (((T.length : Nat) : Int) != (d : Int)) = true := by simp; omega
      have HO : Hid (encLOk g e q T = false) := by
        show encLOk _ _ _ _ = false
        have e1 : (((T.length : Nat) : Int) == (g : Int) * (e : Int)) = false := by rw [HGE.out]; simp; omega
        simp only [encLOk, e1, Bool.and_false, Bool.false_and]
      have HR := Lib.hid (encLR_no HO.out)
      clear hlen
      go_enter Tryd.func49, Tryd.ntmps49
      go_wp2_with fail
      refine (sGoodLocal_any (g : Int) (e : Int) (q : Int) _).mono ?_
      rintro e' w2 ⟨rfl, k2⟩
      rw [HL.out]
      have s2 := k2.size
      replace cg := cell_turn k2 cg (by omega)
      replace ce := cell_turn k2 ce (by omega)
      replace cq := cell_turn k2 cq (by omega)
      have k2' := turn_trans a1 k2 (by omega)
      go_wp2_with fail
      refine (l4Data_any (g : Int) (e : Int) (q : Int) _ (by rw [HGE.out]; omega)).mono ?_
      rintro e' w4 ⟨rfl, k4⟩
      rw [HGE.out]
      have s4 := k4.size
      replace cg := cell_turn k4 cg (by omega)
      replace ce := cell_turn k4 ce (by omega)
      replace cq := cell_turn k4 cq (by omega)
      have k4' := turn_trans k2' k4 (by omega)
      go_wp2_with fail
      go_ret2
      exact ⟨.slice none 0 0, by rw [HO.out]; rfl, by rw [HR.out]; exact OwnSh.nil _ _ _, k4'⟩
  · have HL : Hid (locOk g e q = false) := by show locOk g e q = false; simpa using h
    have HO : Hid (encLOk g e q T = false) := by show encLOk _ _ _ _ = false; simp only [encLOk, HL.out, Bool.false_and]
    have HR := Lib.hid (encLR_no HO.out)
    clear h
    go_enter Tryd.func49, Tryd.ntmps49
    go_wp2_with fail
    refine (sGoodLocal_any g e q _).mono ?_
    rintro e' w2 ⟨rfl, k2⟩
    rw [HL.out]
    have s2 := k2.size
    replace cg := cell_turn k2 cg (by omega)
    replace ce := cell_turn k2 ce (by omega)
    replace cq := cell_turn k2 cq (by omega)
    have k2' := turn_trans a1 k2 (by omega)
    go_wp2_with fail
    go_ret2
    exact ⟨.slice none 0 0, by rw [HO.out]; rfl, by rw [HR.out]; exact OwnSh.nil _ _ _, k2'⟩

end Go.Proofs.YtlkoafnlklhaeaaDoor

/- Marks on shards held. -/
namespace Go.Proofs.YtlkoafnlklhaeaaDoor
open Go.RowKit G294

set_option maxRecDepth 100000 in
set_option maxHeartbeats 2000000 in
theorem heldShardS_own (v : Value) (k0 n : Nat) (w : World) (hv : SeenH w v (marksH k0 n)) (h1 : 0 < k0) (hk0 : k0 + n * 2 ≤ 1000000000000) :
    Calls Tryd.prog 56 #[v, .int .i64 k0] w (RetInt w ((k0 + n * 2 : Nat) : Int)) := by
  obtain ⟨A, c, rfl, hlc, hcm, hx⟩ := hv
  simp only [marksH_length] at hlc hx ⊢
  unfold maxLen at hcm
  go_enter Tryd.func56, Tryd.ntmps56
  go_wp2_with fail
  go_loopw [1, 5] (fun q i wr => ∃ k : Nat, k ≤ n ∧ i = .int .i64 k ∧ q = .int .i64 ((k0 + k * 2 : Nat) : Int) ∧ Below w.heap.size w wr)
    (fun _ i _ => n - (intOf i).toNat)
  case atStart => exact ⟨0, Nat.zero_le _, rfl, by simp, Below.refl _ _⟩
  case round =>
    obtain ⟨k, hk, rfl, rfl, hb⟩ := hrel
    by_cases hlt : k < n
    · obtain ⟨b, off, rfl, hbl, hcell⟩ := hx (by omega)
      have hbs := hb.size
      have hkl : k < (marksH k0 n).length := by simpa using hlt
      have hcc := hcell k _ (List.getElem?_eq_getElem hkl)
      rw [marksH_get] at hcc
      have hc1 := (hb.cell (p := ⟨b, off + k * 2, none⟩) hbl).trans hcc.1
      have hc2 := (hb.cell (p := ⟨b, off + k * 2 + 1, none⟩) hbl).trans hcc.2
      simp only at hc1 hc2
      clear hcell hx hcc hkl
      have hki : (k : Int) < (n : Int) := by omega
      have HC1 : Hid (((k0 + k * 2 + 1 : Nat) : Int) = ((k0 + k * 2 : Nat) : Int) + 1) := Int.natCast_add _ 1
      have hbb := str_same (mtext (k0 + k * 2 + 1))
      have HC : ∀ W, Calls Tryd.prog 119 #[.int .i64 (((k0 + k * 2 : Nat) : Int) + 1)] W (RetStr W (mtext (k0 + k * 2 + 1))) := fun W => HC1.out ▸ markText_ret (k0 + k * 2 + 1) W (by omega) (by omega)
      generalize hm : k0 + k * 2 = m at *
      have hm1 : m + 2 ≤ 1000000000000 := by omega
      have HM := Lib.hid hm
      have hnn : ((m : Int) != (m : Int)) = false := by simp
      have HCC := Lib.hid HC
      clear hm HC
      go_wp2_with fail
      go_region_law ((go_simp; go_at_call 119; refine (HCC.out _).mono ?_; rintro e w' ⟨rfl, ht⟩; have d2 := cell_turn ht (show wr.drew.cell? _ = _ from hc2) (show b < wr.heap.size by omega)))
      all_goals
        have hb2 : Below w.heap.size w w' := ht.base (below_drewN hb 1) (by simp; omega) (by omega)
        go_wp2_with fail
        go_roundw
        case rel => exact ⟨k + 1, by omega, by go_num, by have := HM.out; go_num, hb2⟩
        case measure => simp [intOf]; omega
    · obtain rfl : k = n := by omega
      go_wp2_with fail
      go_ret
      exact ⟨rfl, TurnIn.of_below hb⟩

end Go.Proofs.YtlkoafnlklhaeaaDoor
