/- Chapter 11: rotations and their order, the model's. -/
import Derived.Test.YtbfchebnooanjaaBytIn
import Derived.Test.YtbfchebnooanjaaIntApp
import Derived.Test.YtbfchebnooanjaaTurI
import Derived.Test.YtbfchebnooanjaaVitS
import Derived.Deep.CutRange
set_option linter.unusedSimpArgs false
set_option linter.unusedVariables false
namespace G294
open Go Go.RowKit
theorem rot_extract (s : List UInt8) (k : Nat) (h : k ≤ s.length) : (str s).extract k s.length ++ (str s).extract 0 k = str (rotL s k) := by
  have e1 : (str s).extract k s.length = str (s.drop k) := by
    unfold str
    apply ByteArray.ext
    simp [ByteArray.data_extract]
    exact List.take_of_length_le (by simp)
  have e2 : (str s).extract 0 k = str (s.take k) := by
    unfold str
    apply ByteArray.ext
    simp [ByteArray.data_extract]
  rw [e1, e2, str_append]; rfl
theorem ext_size (s : List UInt8) (a b : Nat) : ((str s).extract a b).size ≤ s.length := by
  rw [ByteArray.size_extract, str_size]; omega
/-- the comparison of the model's loop -/
theorem leq_bef {s : List UInt8} {x i : Nat} (h : x < i) : (Op.bytesLess (rotL s x) (rotL s i) || rotL s x == rotL s i) = decide (bef s x i) := by
  have h1 := bef_fore (s := s) h
  by_cases hb : bef s x i
  · rcases hb with h2 | ⟨h2, _⟩
    · have h3 : Op.bytesLess (rotL s x) (rotL s i) = true := h2
      have h4 : bef s x i := .inl h2
      simp [h3, h4]
    · have h4 : bef s x i := .inr ⟨h2, h⟩
      simp [h2, h4]
  · have h2 : ¬ lessT (rotL s x) (rotL s i) = true := fun e => hb (.inl e)
    have h3 : Op.bytesLess (rotL s x) (rotL s i) = false := by simpa [lessT] using h2
    have h4 : rotL s x ≠ rotL s i := fun e => hb (.inr ⟨e, h⟩)
    simp [h3, h4, hb]
def stillB (s : List UInt8) (i k : Nat) : Prop := k < i ∧ bef s ((trnN s i).getD k 0) i
instance (s : List UInt8) (i k : Nat) : Decidable (stillB s i k) := by unfold stillB; exact inferInstance
theorem trnN_getD {s : List UInt8} {m k : Nat} (h : k < m) : (trnN s m).getD k 0 < m := by
  have hl := trnN_len s m
  rw [getD_len (by omega)]
  exact trnN_mem.1 (List.getElem_mem _)
theorem natI_get (l : List Nat) (k : Nat) (h : k < l.length) : (natI l)[k]? = some ((l.getD k 0 : Nat) : Int) := by
  simp [natI, getD_len h, h]
theorem natI_append (a b : List Nat) : natI (a ++ b) = natI a ++ natI b := by simp [natI]
theorem natI_take (a : List Nat) (k : Nat) : (natI a).take k = natI (a.take k) := by simp [natI, List.map_take]
theorem natI_drop (a : List Nat) (k : Nat) : (natI a).drop k = natI (a.drop k) := by simp [natI, List.map_drop]
theorem trn_step {s : List UInt8} {i k : Nat} (hk : k ≤ i) (h1 : ∀ j, j < k → bef s ((trnN s i).getD j 0) i) (h2 : ¬ stillB s i k) : (natI (trnN s i)).take k ++ [(i : Int)] ++ (natI (trnN s i)).drop k = natI (trnN s (i + 1)) := by
  rw [← trnN_next hk h1 (fun h => by
    have h3 := trnN_getD (s := s) h
    by_cases h4 : bef s ((trnN s i).getD k 0) i
    · exact absurd ⟨h, h4⟩ h2
    · by_cases h5 : bef s i ((trnN s i).getD k 0)
      · exact h5
      · exact absurd (bef_tri s h4 h5) (by omega))]
  rw [natI_append, ← natI_take, List.append_assoc]
  congr 1
  show _ = natI (i :: (trnN s i).drop k)
  simp [natI, List.map_drop]
theorem growT {w w1 w2 : World} {row : Option Nat} (t : TurnIn 0 0 w w1) (hg : w1.grownBy w2 row) (hr : ∀ g, row = some g → w.heap.size ≤ g) : TurnIn 0 0 w w2 :=
  TurnIn.of_below (t.to_below.grown hg t.size hr)
theorem turn_grown {lo : Nat} {w w' : World} {row : Option Nat} (h : w.grownBy w' row) (hr : ∀ g, row = some g → lo ≤ g) : TurnIn lo w.heap.size w w' :=
  ⟨h.os, h.tape, h.output, h.size, fun k hk hd => h.block k hk (fun e => by have := hr k e.symm; omega)⟩
end G294
namespace Go.Proofs.Ytbfchebnooanjaa
open Go.RowKit G294

set_option maxHeartbeats 1000000 in
theorem l11Turn_any (s : List UInt8) (k : Nat) (w : World) (hk : k ≤ s.length) (hs : s.length ≤ 1000) : Calls Try.prog 56 #[.string (str s), .int .i64 k] w (RetStr w (rotL s k)) := by
  have hsz : (str s).size = s.length := str_size s
  obtain ⟨X, hX⟩ : ∃ X, (str s).extract k s.length = X := ⟨_, rfl⟩
  obtain ⟨Y, hY⟩ : ∃ Y, (str s).extract 0 k = Y := ⟨_, rfl⟩
  have hXs : X.size ≤ 1000 := by rw [← hX]; exact Nat.le_trans (ext_size _ _ _) hs
  have hYs : Y.size ≤ 1000 := by rw [← hY]; exact Nat.le_trans (ext_size _ _ _) hs
  have HXY : Hid (X ++ Y = str (rotL s k)) := by show _ = _; rw [← hX, ← hY]; exact rot_extract s k hk
  have HB := Lib.hid (fun q => turn_drewN w q)
  generalize s.length = n at *
  go_enter Try.func56, Try.ntmps56
  go_wp2_with fail
  go_quiet (fail)
  go_wp2_with fail
  go_ret
  exact ⟨by rw [← HXY.out]; rfl, HB.out _⟩

set_option maxRecDepth 100000 in
set_option maxHeartbeats 2000000 in
theorem l11Turns_own (s : List UInt8) (w : World) (hs : s.length ≤ 120) : Calls Try.prog 57 #[.string (str s)] w (RetInts 3 w (natI (trn s))) := by
  obtain ⟨cp, w1, hcv, hc1, hc2, hO, hb1⟩ := bytes_of_str (P := Try.prog) w 9 22 5 s Try.underlying9 Try.underlying22 Try.underlying5 (by unfold maxLen; omega)
  have HB1 := Lib.hid (TurnIn.of_below hb1)
  have hsz1 := hb1.size
  have HT := Lib.hid (fun k W (hk : k ≤ s.length) => l11Turn_any s k W hk (by omega))
  have HST := Lib.hid (fun i k hk h1 h2 => trn_step (s := s) (i := i) (k := k) hk h1 h2)
  have HF : Hid (trnN s s.length = trn s) := Lib.hid rfl
  rw [← HF.out]
  clear hb1 hO
  have HOW0 : Hid (OwnInts 3 w1 w.heap.size w1.heap.size (.slice none 0 0) (natI (trnN s 0))) := by
    have e : trnN s 0 = [] := List.eq_nil_of_length_eq_zero (trnN_len s 0)
    show OwnInts _ _ _ _ _ _
    rw [e]
    exact ⟨World.ownsRow_nil _ _ _ _, Nat.le_refl _, fun g h => by simp [Value.ownBlock] at h⟩
  generalize hnn : s.length = n at *
  have HN := Lib.hid hnn
  clear hnn
  go_enter Try.func57, Try.ntmps57
  go_wp2_with fail
  go_loopw [3, 10] (fun v x wr => ∃ i : Nat, i ≤ n ∧ x = .int .i64 i ∧ Hid (OwnInts 3 wr w.heap.size wr.heap.size v (natI (trnN s i))) ∧ Hid (TurnIn 0 0 w wr)) (fun _ x _ => n - (intOf x).toNat)
  case atStart => exact ⟨0, Nat.zero_le _, rfl, HOW0, HB1⟩
  case round =>
    clear HOW0 HB1 hcv
    obtain ⟨i, hi, rfl, HOW, HTU⟩ := hrel
    by_cases hlt : i < n
    · have hki : (i : Int) < (n : Int) := by omega
      obtain ⟨A, c, hv⟩ := HOW.out.seen.len
      rw [ints_length, natI_len, trnN_len] at hv
      subst hv
      have HTI := Lib.hid (fun W => HT.out i W (by omega))
      generalize wr = wo at *
      have hsw := HTU.out.size
      go_wp2_with fail
      go_loopw [5] (fun x wr => ∃ k : Nat, k ≤ i ∧ x = .int .i64 k ∧ Hid (TurnIn 0 0 wo wr) ∧ Hid (∀ j, j < k → bef s ((trnN s i).getD j 0) i)) (fun x _ => i - (intOf x).toNat)
      case atStart => exact ⟨0, Nat.zero_le _, rfl, Lib.hid (TurnIn.refl _), Lib.hid (fun j h => by omega)⟩
      case round =>
        obtain ⟨k, hk, rfl, HTK, HK⟩ := hrel
        have hszk := HTK.out.size
        go_upto_region 6 with fail
        obtain ⟨tb, HTB⟩ : ∃ tb : Bool, Hid (decide (stillB s i k) = tb) := ⟨_, Lib.hid rfl⟩
        go_cut [28] from 13 to 28 (fun t wx => t = .bool tb ∧ TurnIn 0 0 wr wx)
        case first =>
          by_cases hkl : k < i
          · have hkli : (k : Int) < (i : Int) := by omega
            have hx := trnN_getD (s := s) hkl
            have HL := Lib.hid (leq_bef (s := s) hx)
            have HD : Hid (decide (stillB s i k) = decide (bef s ((trnN s i).getD k 0) i)) := by
              show _ = _
              by_cases h : bef s ((trnN s i).getD k 0) i <;> simp [stillB, hkl, h]
            obtain ⟨A', c', e, _, _, h3⟩ := HOW.out.seen
            simp only [Value.slice.injEq] at e
            obtain ⟨rfl, he, rfl⟩ := e
            clear he
            obtain ⟨b, o, rfl, hbb, hcc⟩ := h3 (by rw [ints_length, natI_len, trnN_len]; omega)
            have c1 : wr.cell? ⟨b, o + k, none⟩ = some (.int .i64 (((trnN s i).getD k 0 : Nat) : Int)) := by
              rw [World.cell?_of_block (HTK.out.block b hbb (by omega))]
              refine hcc k _ ?_
              simp only [ints, List.getElem?_map, natI_get (trnN s i) k (by rw [trnN_len]; exact hkl), Option.map_some]
            rw [← HD.out, HTB.out] at HL
            generalize (trnN s i).getD k 0 = x at *
            have HTX := Lib.hid (fun W => HT.out x W (by omega))
            clear h3 hcc HD
            go_wp2_with fail
            refine (HTX.out _).mono ?_
            rintro e w3 ⟨rfl, k3⟩
            have K3 := Lib.hid k3
            clear k3
            go_wp2_with fail
            refine (HTI.out _).mono ?_
            rintro e w4 ⟨rfl, k4⟩
            have K4 := Lib.hid (turn_trans K3.out k4 (by omega))
            clear k4
            have hle : (Op.bytesLess (str (rotL s x)).toList (str (rotL s i)).toList || (str (rotL s x)).toList == (str (rotL s i)).toList) = tb := by
              rw [str_toList, str_toList]; exact HL.out
            go_wp2_with fail
            go_meet
            exact ⟨by first | rfl | (rw [← hle]), K4.out⟩
          · have hkli : ¬ (k : Int) < (i : Int) := by omega
            have HD : Hid (decide (stillB s i k) = false) := by show _ = _; simp [stillB, hkl]
            go_wp2_with fail
            go_meet
            exact ⟨by rw [← HTB.out, HD.out], TurnIn.refl _⟩
        case rest =>
        obtain ⟨rfl, htc⟩ := hcut
        have HTC := Lib.hid (turn_trans HTK.out htc (by omega))
        clear htc HTK
        cases tb with
        | true =>
          have hst : stillB s i k := of_decide_eq_true HTB.out
          have HK2 : Hid (∀ j, j < k + 1 → bef s ((trnN s i).getD j 0) i) := fun j hj => by
            by_cases e : j = k
            · subst e; exact hst.2
            · exact HK.out j (by omega)
          have hkl : k < i := hst.1
          clear hst
          go_wp2_with fail
          go_roundw
          case rel => exact ⟨k + 1, by omega, by go_num, HTC, HK2⟩
          case measure => simp [intOf]; omega
        | false =>
          have hst : ¬ stillB s i k := of_decide_eq_false HTB.out
          have HFI := Lib.hid (HST.out i k hk HK.out hst)
          clear hst HK
          have hsc := HTC.out.size
          have HOC := Lib.hid (HOW.out.keep HTC.out (by omega))
          obtain ⟨u1, s1, s1', HS1, HN1⟩ := sliceHighI HOC.out.seen (own_nilI HOC.out.1) (k := k) (by rw [natI_len, trnN_len]; exact hk)
          obtain ⟨u2, s2, s2', HS2, HN2⟩ := sliceLowI HOC.out.seen (own_nilI HOC.out.1) (k := k) (by rw [natI_len, trnN_len]; exact hk)
          have H1 := Lib.hid (And.intro HS1 HN1)
          have H2 := Lib.hid (And.intro HS2 HN2)
          have HL1 : Hid (((natI (trnN s i)).take k).length = k) := by show _ = _; rw [List.length_take, natI_len, trnN_len]; omega
          have HL2 : Hid (((natI (trnN s i)).drop k).length = i - k) := by show _ = _; rw [List.length_drop, natI_len, trnN_len]
          generalize (natI (trnN s i)).take k = l1 at *
          generalize (natI (trnN s i)).drop k = l2 at *
          clear HS1 HN1 HS2 HN2 HOC
          go_wp2_with (at_builtin; refine wpList_appendIs rfl _ _ _ rfl wc.heap.size 3 _ _ Try.underlying28 infoInt rfl (by omega) _ 0 [] l1 rfl (World.ownsRow_nil _ _ _ _) u1 rfl H1.out.1 H1.out.2 ?c1 (Nat.le_refl _) ?_)
          case c1 => rw [HL1.out]; omega
          intro v1 w2 hown1 hg1 _
          have K1 := Lib.hid (TurnIn.of_grown (lo := 0) (hi := 0) hg1 (fun g h => by simp [Value.ownBlock] at h))
          rw [HL1.out] at hown1
          have HO1 := Lib.hid (hown1.alloc (.cells #[.int .i64 (i : Int)] 3))
          have KA := Lib.hid (turn_trans K1.out (turn_alloc w2 (.cells #[.int .i64 (i : Int)] 3)) (by omega))
          have hz1 := K1.out.size
          clear hown1 hg1 K1
          go_wp2_with (at_builtin; refine wpList_append1 rfl _ _ _ rfl wc.heap.size 3 _ _ Try.underlying28 infoInt rfl _ k _ rfl HO1.out w2.heap.size (.int .i64 (i : Int)) rfl ?c1 rfl ?c2 ?c3 ?c4 ?_)
          case c1 => simp
          case c2 => omega
          case c3 => omega
          case c4 => simp; omega
          intro v2 w3 hown2 hg2 _
          have K2 := Lib.hid (growT KA.out hg2 (fun g e => (HO1.out.lt g e).1))
          have HO2 : Hid (w3.ownsRow wc.heap.size 3 1 v2 (k + 1) (ints (l1 ++ [(i : Int)]))) := by
            show World.ownsRow _ _ _ _ _ _ _
            rw [ints_append]; exact hown2
          have HS2 := Lib.hid (H2.out.1.touch K2.out)
          have HN2 := Lib.hid H2.out.2
          have hz2 := K2.out.size
          clear hown2 hg2 KA HO1 H1 H2
          go_wp2_with (at_builtin; refine wpList_appendIs rfl _ _ _ rfl wc.heap.size 3 _ _ Try.underlying28 infoInt rfl (by omega) _ (k + 1) _ l2 rfl HO2.out u2 rfl HS2.out HN2.out ?d1 ?d2 ?_)
          case d1 => rw [HL2.out]; omega
          case d2 => omega
          intro v3 w4 hown3 hg3 _
          have K3 := Lib.hid (growT K2.out hg3 (fun g e => (HO2.out.lt g e).1))
          have HOF : Hid (OwnInts 3 w4 w.heap.size w4.heap.size v3 (natI (trnN s (i + 1)))) := by
            show OwnInts _ _ _ _ _ _
            refine ⟨own_base (base := wc.heap.size) ?_ (by omega), Nat.le_refl _, fun g hg => (hown3.lt g hg).2⟩
            rw [natI_len, trnN_len, ← HFI.out, ← (show k + 1 + (i - k) = i + 1 by omega)]
            rw [HL2.out] at hown3
            simpa using hown3
          have HTF := Lib.hid (turn_trans HTU.out (turn_trans HTC.out K3.out (by omega)) (by omega))
          clear hown3 hg3 K2 K3 HO2 HS2 HN2
          go_wp2_with fail
          go_roundw
          case rel => exact ⟨i + 1, by omega, by go_num, HOF, HTF⟩
          case measure => simp [intOf]; omega
    · obtain rfl : i = n := by omega
      have hki : ¬ (i : Int) < (i : Int) := by omega
      go_wp2_with fail
      go_ret
      exact ⟨_, rfl, HOW.out, HTU.out⟩
end Go.Proofs.Ytbfchebnooanjaa
