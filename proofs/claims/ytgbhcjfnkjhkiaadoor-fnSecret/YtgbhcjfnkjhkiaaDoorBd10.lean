/- Joined texts: RndSpc, TabOf. -/
import Derived.Test.YtgbhcjfnkjhkiaaDoorBd06
import Derived.Test.YtgbhcjfnkjhkiaaDoorBd09
import Derived.Test.YtgbhcjfnkjhkiaaDoorRows
import Derived.Test.YtgbhcjfnkjhkiaaDoorBd00
import Derived.Test.YtgbhcjfnkjhkiaaDoorBd03
set_option linter.unusedSimpArgs false
set_option linter.unusedVariables false
/- RandomFor: the model's. -/
namespace G294
open Go Go.RowKit
/-- a matrix applied to a vector -/
def aplL (r c : Nat) (F : Ents) (b : List UInt8) : List UInt8 := mkRow r fun i => dotL (mkRow c (F i)) b
theorem rnd_apply {l : List Sr} (h : shrOk l = true) (h19 : l.length ≤ 19) (s : UInt8) : aplL l.length l.length (bst (rndF l) idF l.length l.length) (mkRow l.length fun k => yF l k ^^^ s) = rndL l s := by
  refine mkRow_congr fun i hi => ?_
  show dotL _ _ = _
  rw [← rnd_sol h h19 s hi]
  unfold dotL
  rw [mkRow_length, dotK_sum]
  exact sumK_congr fun k hk => by rw [mkRow_getD _ _ _ hk, mkRow_getD _ _ _ hk]
theorem World.cell_alloc_eq (w : World) (B : Nat) (v x : Value) (T : TypeId) : ((w.setCell ⟨B, 0, none⟩ v).alloc (.cells #[x] T)).cell? ⟨w.heap.size, 0, none⟩ = some x := by
  have h := alloc_cell (w.setCell ⟨B, 0, none⟩ v) x T
  have e : (w.setCell ⟨B, 0, none⟩ v).heap.size = w.heap.size := by simp
  rw [e] at h; exact h
/-- a matrix in a box and, apart from it, a row of bytes -/
structure MatAnd (E EE : TypeId) (lo B : Nat) (L : Mat) (v : Value) (vs : List Value) (y : Value) (n : Nat) (ys : List UInt8) (w : World) : Prop where
  box : MatBox E EE lo B L v vs w
  row : w.ownsRow lo E 1 y n (bys ys)
  ne : ∀ g, y.ownBlock = some g → v.ownBlock ≠ some g ∧ (∀ u ∈ vs, u.ownBlock ≠ some g) ∧ g ≠ B
section
variable {E EE : TypeId} {lo B n : Nat} {L : Mat} {v v' u y y' : Value} {vs : List Value} {ys r : List UInt8} {w W w1 : World}
theorem MatAnd.turn (h : MatAnd E EE lo B L v vs y n ys w) (k : TurnIn 0 0 w W) : MatAnd E EE lo B L v vs y n ys W := ⟨h.box.turn k, own_below h.row k.to_below, h.ne⟩
/-- the matrix grows by a row -/
theorem MatAnd.push {a b : Nat} (h : MatAnd E EE lo B L v vs y n ys w) (k : TurnIn 0 0 w W) (hu : OwnBytes E W a b u r) (h1 : w.heap.size ≤ a) (hlo : lo ≤ w.heap.size)
    (ho : w1.ownsRow lo EE 1 v' (L.length + 1) (vs ++ [u])) (hg : W.grownBy w1 v.ownBlock) (hv : v'.ownBlock = v.ownBlock ∨ v'.ownBlock = some W.heap.size) :
    MatAnd E EE lo B (L ++ [r]) v' (vs ++ [u]) y n ys (w1.setCell ⟨B, 0, none⟩ v') := by
  have hylt : ∀ g, y.ownBlock = some g → g < w.heap.size := fun g e => (h.row.lt g e).2
  have hsk := k.size
  refine ⟨h.box.push k hu h1 hlo ho hg hv, ?_, fun g e => ⟨?_, ?_, (h.ne g e).2.2⟩⟩
  · have r1 := own_other (own_below h.row k.to_below) hg (fun g e e' => (h.ne g e).1 e')
    exact own_other r1 (grown_set B 0 v') (fun g e e' => (h.ne g e).2.2 (by cases e'; rfl))
  · rcases hv with e' | e'
    · rw [e']; exact (h.ne g e).1
    · rw [e']; simp; have := hylt g e; omega
  · intro x hx e'
    rcases List.mem_append.1 hx with h2 | h2
    · exact (h.ne g e).2.1 x h2 e'
    · rw [List.mem_singleton] at h2
      subst h2
      have := (hu.1.lt g e').1
      have := hylt g e
      omega
/-- the row grows -/
theorem MatAnd.more {m : Nat} {zs : List UInt8} (h : MatAnd E EE lo B L v vs y n ys w) (k : TurnIn 0 0 w W) (ho : w1.ownsRow lo E 1 y' m (bys zs)) (hg : W.grownBy w1 y.ownBlock) (hy : y'.ownBlock = y.ownBlock ∨ y'.ownBlock = some W.heap.size) : MatAnd E EE lo B L v vs y' m zs w1 := by
  have hb := (h.box.turn k)
  have hsk := k.size
  have hsg := hg.size
  have hrb := hb.own.rowBlock
  have hob : ∀ g, v.ownBlock = some g → g < W.heap.size := fun g e => hb.own.out g e
  have hne : ∀ g, y'.ownBlock = some g → v.ownBlock ≠ some g ∧ (∀ u ∈ vs, u.ownBlock ≠ some g) ∧ g ≠ B := by
    intro g e
    rcases hy with e' | e'
    · exact h.ne g (by rw [← e', e])
    · rw [e'] at e
      simp only [Option.some.injEq] at e
      subst e
      exact ⟨fun e2 => by have := hob _ e2; omega, fun x hx e2 => by have := (hrb x hx _ e2).2; omega, by have := hb.lt; omega⟩
  refine ⟨?_, ho, hne⟩
  cases hyb : y.ownBlock with
  | none =>
    rw [hyb] at hg
    have t : TurnIn 0 0 W w1 := TurnIn.of_grown hg fun g e => by simp at e
    exact hb.turn t
  | some g0 =>
    rw [hyb] at hg
    obtain ⟨n1, n2, n3⟩ := h.ne g0 hyb
    have e1 : w1.heap[B]? = W.heap[B]? := hg.block B hb.lt (fun e => n3 (by cases e; rfl))
    exact ⟨(hb.own.other hg n1 n2).wider (Nat.le_refl _) hsg (Nat.le_refl _), (World.cell?_of_block e1).trans hb.cell, (World.frozen?_of_block e1).trans hb.fro, by have := hb.lt; omega, hb.ne, hb.rne⟩
end
end G294
namespace Go.Proofs.YtgbhcjfnkjhkiaaDoor
open Go.RowKit G294

set_option maxRecDepth 100000 in
set_option maxHeartbeats 1000000 in
theorem l2Apply_own (r c : Nat) (F : Ents) (v u : Value) (b : List UInt8) (w : World) (hs : SeenM w v (mkM r c F)) (hu : Seen w u (bys b)) (hb : b.length = c) (hr : r ≤ 1000) :
    Calls Tryd.prog 123 #[.agg #[v], u] w (RetBytes 5 w (aplL r c F b)) := by
  have a1 := turn_alloc w (.cells #[v] 39)
  have HS := Lib.hid (hs.touch a1)
  have HU := Lib.hid (hu.touch a1)
  obtain ⟨A, cp, rfl, hlc, hcm⟩ := hs.len
  obtain ⟨A2, c2, hvu⟩ := hu.len
  rw [bys_length, hb] at hvu
  subst hvu
  have HBL := Lib.hid hb
  rw [mkM_length] at hlc
  simp only [mkM_length] at *
  unfold maxLen at hcm
  have hc0 := alloc_cell w (.slice A r cp) 39
  have zz := World.size_alloc w (.cells #[.slice A r cp] 39)
  have HAP : Hid (aplL r c F b = mkRow r fun i => dotL (mkRow c (F i)) b) := rfl
  clear hs hu hb
  go_enter Tryd.func123, Tryd.ntmps123
  go_wp2_with fail
  generalize hW : w.alloc (.cells #[.slice A r cp] 39) = W0 at *
  have HZZ := Lib.hid zz
  have zle : w.heap.size ≤ W0.heap.size := by omega
  clear hW zz
  go_loopw [5, 11] (fun o i wr => ∃ k : Nat, k ≤ r ∧ i = .int .i64 k ∧ wr.ownsRow W0.heap.size 5 1 o k (bys (mkRow k fun i => dotL (mkRow c (F i)) b)) ∧ TurnIn 0 0 W0 wr)
    (fun _ i _ => r - (intOf i).toNat)
  case atStart => exact ⟨0, Nat.zero_le _, rfl, World.ownsRow_nil _ _ _ _, TurnIn.refl _⟩
  case round =>
    obtain ⟨k, hk, rfl, ho, k5⟩ := hrel
    by_cases hlt : k < r
    · have hki : (k : Int) < (r : Int) := by omega
      obtain ⟨bb, off, cp5, A1, c1, hvv, _, hbb, hcx, hc9, hsr⟩ := (HS.out.touch k5).rowF k hlt
      simp only [Value.slice.injEq] at hvv
      obtain ⟨rfl, z9, rfl⟩ := hvv
      have HSR := Lib.hid hsr
      have HOW := Lib.hid ho
      clear z9 hsr ho
      go_wp2_with fail
      refine (l1Dot_own _ _ (mkRow c (F k)) b _ HSR.out (HU.out.touch k5) (by rw [mkRow_length]; exact HBL.out.symm)).mono ?_
      rintro e w6 ⟨rfl, k6⟩
      have k7 := turn_trans k5 k6 (by omega)
      have z7 := k7.size
      obtain ⟨y, hy⟩ : ∃ y, y = dotL (mkRow c (F k)) b := ⟨_, rfl⟩
      rw [← hy]
      have HROW : Hid ((mkRow k fun i => dotL (mkRow c (F i)) b) ++ [y] = mkRow (k + 1) fun i => dotL (mkRow c (F i)) b) := by show _ = _; rw [hy, mkRow_succ]
      have HO6 := Lib.hid ((owns_turn0 HOW.out k6).alloc (.cells #[.int .u8 (y.toNat : Int)] 5))
      clear hy
      go_wp2_with (at_builtin; refine wpList_append1 rfl _ _ _ rfl _ 5 _ _ Tryd.underlying22 infoByte rfl _ k _ rfl HO6.out w6.heap.size (.int .u8 (y.toNat : Int)) rfl ?c1 rfl ?c2 ?c3 ?c4 ?_)
      case c1 => simp
      case c2 => omega
      case c3 => omega
      case c4 => simp; omega
      intro v' w8 ho8 hg8 _
      have hon : w8.ownsRow W0.heap.size 5 1 v' (k + 1) (bys (mkRow (k + 1) fun i => dotL (mkRow c (F i)) b)) := by rw [← HROW.out, bys_append]; exact ho8
      have k8 : TurnIn 0 0 W0 w8 := turn_grow (turn_trans k7 (turn_alloc w6 _) (by omega)) hg8 (fun g e => (HO6.out.lt g e).1)
      clear ho8 hg8 HO6
      go_wp2_with fail
      go_roundw
      case rel => exact ⟨k + 1, by omega, by go_num, hon, k8⟩
      case measure => simp [intOf]; omega
    · obtain rfl : k = r := by omega
      have hki : ¬ (k : Int) < (k : Int) := by omega
      have HA1 := Lib.hid a1
      go_wp2_with fail
      go_ret
      refine ⟨_, rfl, ?_, turn_trans HA1.out k5 (by omega)⟩
      rw [HAP.out]
      exact OwnBytes.of_made (w := w) (by rw [mkRow_length]; exact own_base ho (by omega))

theorem l1Power_uR (x : UInt8) (n : Nat) (m : Int) (hm : m = (n : Int)) (hn : n ≤ 10000) (w : World) : Calls Tryd.prog 79 #[.int .u8 (x.toNat : Int), .int .i64 m] w fun e w' => e = .returned (.int .u8 ((powB x n).toNat : Int)) ∧ w = w' := by
  rw [powB_toNat, hm]; exact l1Power_any _ _ x.toNat_lt hn w

set_option maxRecDepth 100000 in
set_option maxHeartbeats 4000000 in
theorem sRandomFor_own (v : Value) (l : List Sr) (s : UInt8) (w : World) (hv : SeenR w v l) :
    Calls Tryd.prog 50 #[v, .int .u8 (s.toNat : Int)] w (RetBytesOk 5 w (rndR l s) (rndOk l)) := by
  have HV := Lib.hid hv
  obtain ⟨A, c, rfl, hlc, hcm, hx⟩ := hv
  unfold maxLen at hcm
  have HX := Lib.hid hx
  clear hx
  by_cases hs : shrOk l = true
  · have HS := Lib.hid hs
    clear hs
    by_cases h8 : l.length ≤ 8
    · have hd : decide (8 < (l.length : Int)) = false := by simp; omega
      have HO := Lib.hid (rndOk_yes HS.out h8)
      have HR := Lib.hid (rndR_yes (s := s) HO.out)
      by_cases hz : l.length = 0
      · have hdz : ((l.length : Int) == 0) = true := by simp [hz]
        have HRE : Hid (rndL l s = []) := List.eq_nil_of_length_eq_zero (by rw [rndL_length]; exact hz)
        generalize hnn : l.length = n at *
        clear hnn hz
        go_enter Tryd.func50, Tryd.ntmps50
        go_wp2_with fail
        refine (l7Shares_own _ l _ HV.out).mono ?_
        rintro e w1 ⟨rfl, k1⟩
        rw [HS.out]
        go_wp2_with fail
        go_ret2
        exact ⟨_, by rw [HO.out]; rfl, by rw [HR.out, HRE.out]; exact ⟨World.ownsRow_nil _ _ _ _, Nat.le_refl _, fun g e => by simp [Value.ownBlock] at e⟩, k1⟩
      · have hdz : ((l.length : Int) == 0) = false := by rw [beq_eq_false_iff_ne]; omega
        have HAP := Lib.hid (rnd_apply HS.out (by omega) s)
        have HFU := Lib.hid (rnd_full HS.out)
        generalize hnn : l.length = n at *
        have HN := Lib.hid hnn
        clear hnn
        go_enter Tryd.func50, Tryd.ntmps50
        go_wp2_with fail
        refine (l7Shares_own _ l _ HV.out).mono ?_
        rintro e w1 ⟨rfl, k1⟩
        rw [HS.out]
        have z1 := k1.size
        have q0 := MatBox.new (OwnM.nil 5 22 w1 w1.heap.size) 39
        have ta := turn_alloc w1 (.cells #[.slice none 0 0] 39)
        have kb := turn_trans k1 ta (by omega)
        go_wp2_with fail
        generalize w1.alloc (.cells #[.slice none 0 0] 39) = W1 at *
        generalize hB : w1.heap.size = B at *
        clear hB ta k1
        have q1 : MatAnd 5 22 B B (mkM 0 n (rndF l)) (.slice none 0 0) [] (.slice none 0 0) 0 (mkRow 0 fun i => yF l i ^^^ s) W1 := ⟨q0, World.ownsRow_nil _ _ _ _, fun g e => by simp [Value.ownBlock] at e⟩
        clear q0
        have zB : B ≤ W1.heap.size := Nat.le_of_lt q1.box.lt
        go_loopw [7, 28] (fun o i wr => ∃ (k : Nat) (v : Value) (vs : List Value), k ≤ n ∧ i = .int .i64 k ∧ MatAnd 5 22 B B (mkM k n (rndF l)) v vs o k (mkRow k fun i => yF l i ^^^ s) wr ∧ TurnIn 0 0 w wr)
          (fun _ i _ => n - (intOf i).toNat)
        case atStart => exact ⟨0, _, _, Nat.zero_le _, rfl, q1, kb⟩
        case round =>
          obtain ⟨k, v, vs, hk, rfl, hq, k5⟩ := hrel
          clear q1 kb zB
          have zB : B < wr.heap.size := hq.box.lt
          have z5 := k5.size
          by_cases hlt : k < n
          · have hki : (k : Int) < (n : Int) := by omega
            obtain ⟨b, off, rfl, hbl, hcell⟩ := HX.out (by omega)
            obtain ⟨⟨x, y⟩, hks⟩ := at_ltR HN.out hlt
            obtain ⟨e1, e2⟩ := at_xy hks
            have hb5 := k5.to_below
            have hc1 := (hb5.cell (p := ⟨b, off + k * 2, none⟩) hbl).trans (hcell k _ hks).1
            have hc2 := (hb5.cell (p := ⟨b, off + k * 2 + 1, none⟩) hbl).trans (hcell k _ hks).2
            simp only at hc1 hc2 e1 e2
            have ta := turn_alloc wr (.cells #[.int .u8 (x.toNat : Int), .int .u8 (y.toNat : Int)] 59)
            have hp0 : (wr.alloc (.cells #[.int .u8 (x.toNat : Int), .int .u8 (y.toNat : Int)] 59)).cell? ⟨wr.heap.size, 0, none⟩ = some (.int .u8 (x.toNat : Int)) := by simp
            have hp1 : (wr.alloc (.cells #[.int .u8 (x.toNat : Int), .int .u8 (y.toNat : Int)] 59)).cell? ⟨wr.heap.size, 1, none⟩ = some (.int .u8 (y.toNat : Int)) := by simp
            have zq := World.size_alloc wr (.cells #[.int .u8 (x.toNat : Int), .int .u8 (y.toNat : Int)] 59)
            have hvb : ∀ g, v.ownBlock = some g → g < wr.heap.size := fun g e => hq.box.own.out g e
            have hyb : ∀ g, u7.ownBlock = some g → g < wr.heap.size := fun g e => (hq.row.lt g e).2
            have HQ := Lib.hid (hq.turn ta)
            have k6 := turn_trans k5 ta (by omega)
            have HROWF : Hid ((fun j => powB x (j + 1)) = rndF l k) := by show _ = _; rw [e1]; rfl
            have HYF : Hid (yF l k = y) := e2.symm
            clear hcell hks hb5 ta k5 e1 e2 hq
            go_wp2_with fail
            generalize wr.alloc (.cells #[.int .u8 (x.toNat : Int), .int .u8 (y.toNat : Int)] 59) = Wa at *
            generalize hBp : wr.heap.size = Bp at *
            have HVB := Lib.hid hvb
            have HYB := Lib.hid hyb
            have zWa : Bp < Wa.heap.size := by omega
            have HZQ := Lib.hid zq
            clear hBp hc1 hc2 hvb hyb zq
            go_loopw [10, 34] (fun o i wq => ∃ mm : Nat, mm ≤ n ∧ i = .int .i64 mm ∧ Hid (wq.ownsRow Wa.heap.size 5 1 o mm (bys (mkRow mm fun j => powB x (j + 1)))) ∧ Hid (TurnIn 0 0 Wa wq))
              (fun _ i _ => n - (intOf i).toNat)
            case atStart => exact ⟨0, Nat.zero_le _, rfl, Lib.hid (World.ownsRow_nil _ _ _ _), Lib.hid (TurnIn.refl _)⟩
            case round =>
              obtain ⟨mm, hmm, rfl, HOWN, HTT⟩ := hrel
              have hst := HTT.out.size
              have d0 := cell_turn HTT.out hp0 zWa
              have d1 := cell_turn HTT.out hp1 zWa
              by_cases hlm : mm < n
              · have hmi : (mm : Int) < (n : Int) := by omega
                obtain ⟨z, hzz⟩ : ∃ z, z = powB x (mm + 1) := ⟨_, rfl⟩
                have HZ : Hid ((mkRow mm fun j => powB x (j + 1)) ++ [z] = mkRow (mm + 1) fun j => powB x (j + 1)) := by show _ = _; rw [hzz, mkRow_succ]
                have HZP : Hid (powB x (mm + 1) = z) := hzz.symm
                clear hzz
                go_wp2_with fail
                refine (l1Power_uR x (mm + 1) _ (by omega) (by omega) _).mono ?_
                rintro e w' ⟨rfl, rfl⟩
                rw [HZP.out]
                go_wp2_with (at_builtin; refine wpList_append1 rfl _ _ _ rfl _ 5 _ _ Tryd.underlying22 infoByte rfl _ mm _ rfl (HOWN.out.alloc _) wr.heap.size (.int .u8 (z.toNat : Int)) rfl ?c1 rfl ?c2 ?c3 ?c4 ?_)
                case c1 => simp
                case c2 => omega
                case c3 => omega
                case c4 => simp; omega
                intro v' w' hown' hg' _
                have hT2 : TurnIn 0 0 Wa w' := turn_grow (turn_trans HTT.out (turn_alloc wr _) (by omega)) hg' (fun g e => (HOWN.out.lt g e).1)
                have hown2 : w'.ownsRow Wa.heap.size 5 1 v' (mm + 1) (bys (mkRow (mm + 1) fun j => powB x (j + 1))) := by rw [← HZ.out, bys_append]; exact hown'
                have HT2 := Lib.hid hT2
                have HOWN2 := Lib.hid hown2
                clear hown' hg' hown2 hT2
                go_wp2_with fail
                go_roundw
                case rel => exact ⟨mm + 1, by omega, by go_num, HOWN2, HT2⟩
                case measure => simp [intOf]; omega
              · obtain rfl : mm = n := by omega
                have hmi : ¬ (mm : Int) < (mm : Int) := by omega
                obtain ⟨A5, n5, c5, rfl⟩ := own_isSlice HOWN.out
                obtain ⟨A6, n6, c6, rfl⟩ := HQ.out.box.own.isSlice
                have hq2 := HQ.out.turn HTT.out
                have hrow : wr.ownsRow B 22 1 (.slice A6 n6 c6) k vs := by simpa using hq2.box.own.row
                have kW := turn_trans HTT.out (turn_alloc wr (.cells #[.slice A5 n5 c5] 22)) (by omega)
                have hR : OwnBytes 5 (wr.alloc (.cells #[.slice A5 n5 c5] 22)) Wa.heap.size wr.heap.size (.slice A5 n5 c5) (mkRow mm fun j => powB x (j + 1)) := ⟨by simpa using HOWN.out.alloc _, by simp, fun g e => (HOWN.out.lt g e).2⟩
                have hcB := hq2.box.cell
                have hneB : (Value.slice A6 n6 c6).ownBlock ≠ some Bp := fun e => by have := HVB.out _ e; omega
                have HROW := Lib.hid hrow
                have HKW := Lib.hid kW
                have HRR := Lib.hid hR
                clear hq2 hrow kW hR
                go_wp2_with (at_builtin; refine wpList_append1 rfl _ _ _ rfl B 22 _ _ Tryd.underlying37 infoRowB rfl _ k vs rfl (HROW.out.alloc _) wr.heap.size (.slice A5 n5 c5) rfl ?d1 rfl ?d2 ?d3 ?d4 ?_)
                case d2 => omega
                case d4 => first | omega | (simp; omega)
                intro v' w8 hown' hg' hv'
                obtain ⟨A7, n7, c7, rfl⟩ := own_isSlice hown'
                have hfB : w8.frozen? ⟨B, 0, none⟩ = false := (frozen_past HKW.out hg' HQ.out.box.ne HQ.out.box.lt 0).trans HQ.out.box.fro
                have hcB8 : w8.cell? ⟨B, 0, none⟩ = some (.slice A6 n6 c6) := (cell_past HKW.out hg' HQ.out.box.ne HQ.out.box.lt 0).trans HQ.out.box.cell
                have d8 : w8.cell? ⟨Bp, 1, none⟩ = some (.int .u8 (y.toNat : Int)) := (cell_past HKW.out hg' hneB zWa 1).trans hp1
                have d9 : (w8.setCell ⟨B, 0, none⟩ (.slice A7 n7 c7)).cell? ⟨Bp, 1, none⟩ = some (.int .u8 (y.toNat : Int)) := (cell_set_other w8 _ _ _ (by omega)).trans d8
                have hq9 := HQ.out.push HKW.out HRR.out (Nat.le_refl _) (by omega) (by simpa using hown') hg' (by rw [World.size_alloc] at *; exact hv')
                have k9 : TurnIn 0 0 w (w8.setCell ⟨B, 0, none⟩ (.slice A7 n7 c7)) := turn_trans (turn_grow (turn_trans k6 HKW.out (by omega)) hg' (fun g e => by have := (HROW.out.lt g e).1; omega)) (turn_setCell w8 B 0 _) (by omega)
                have zw8 : B < w8.heap.size := by have := hg'.size; simp at this; omega
                have z9 : Wa.heap.size ≤ (w8.setCell ⟨B, 0, none⟩ (.slice A7 n7 c7)).heap.size := by have := hg'.size; simp at this ⊢; omega
                have hMS : mkM k mm (rndF l) ++ [mkRow mm fun j => powB x (j + 1)] = mkM (k + 1) mm (rndF l) := by rw [HROWF.out, mkM_succ]
                rw [hMS] at hq9
                have HQ9 := Lib.hid hq9
                have HK9 := Lib.hid k9
                obtain ⟨z, hzz⟩ : ∃ z, z = y ^^^ s := ⟨_, rfl⟩
                have hxx := xor_u8 y s
                rw [← hzz] at hxx
                have HZ : Hid ((mkRow k fun i => yF l i ^^^ s) ++ [z] = mkRow (k + 1) fun i => yF l i ^^^ s) := by show _ = _; rw [hzz, mkRow_succ, HYF.out]
                clear hq9 k9 hMS hown' hg' hv' hzz d8
                go_wp2_with (at_builtin; refine wpList_append1 rfl _ _ _ rfl B 5 _ _ Tryd.underlying22 infoByte rfl _ k _ rfl (HQ9.out.row.alloc _) w8.heap.size (.int .u8 (z.toNat : Int)) ?e0 ?e1 rfl ?e2 ?e3 ?e4 ?_)
                case e0 => exact rfl
                case e1 => exact World.cell_alloc_eq w8 B _ _ 5
                case e2 => omega
                case e3 => omega
                case e4 => simp; omega
                intro v9 w10 ho10 hg10 hv10
                have hq10 := HQ9.out.more (turn_alloc _ _) (zs := mkRow (k + 1) fun i => yF l i ^^^ s) (by rw [← HZ.out, bys_append]; exact ho10) hg10 (by simpa using hv10)
                have k10 : TurnIn 0 0 w w10 := turn_grow (turn_trans HK9.out (turn_alloc _ _) (by omega)) hg10 (fun g e => by have := (HQ9.out.row.lt g e).1; omega)
                clear ho10 hg10 hv10 HQ9 HK9
                go_wp2_with fail
                go_roundw
                case rel => exact ⟨k + 1, _, _, by omega, by go_num, hq10, k10⟩
                case measure => simp [intOf]; omega
          · obtain rfl : k = n := by omega
            have hki : ¬ (k : Int) < (k : Int) := by omega
            obtain ⟨A6, n6, c6, rfl⟩ := hq.box.own.isSlice
            obtain ⟨A7, n7, c7, rfl⟩ := own_isSlice hq.row
            have hcB := hq.box.cell
            have HSM := Lib.hid hq.box.own.seen
            have HSY := Lib.hid (Seen.of_own hq.row)
            clear hq
            go_wp2_with fail
            refine (l2Inverse_own k (rndF l) _ _ HSM.out (by omega) (by omega)).mono ?_
            rintro e w6 ⟨v6, vs6, rfl, hM6, k6⟩
            obtain ⟨A8, n8, c8, rfl⟩ := hM6.isSlice
            have ta := turn_alloc w6 (.cells #[.slice A8 n8 c8] 39)
            have k7 := turn_trans (turn_trans k5 k6 (by omega)) ta (by omega)
            have HM7 := Lib.hid ((hM6.seen).touch ta)
            have HY7 := Lib.hid (HSY.out.touch (turn_trans k6 ta (by omega)))
            clear hM6
            go_wp2_with fail
            refine (l2Apply_own k k (bst (rndF l) idF k k) _ _ (mkRow k fun i => yF l i ^^^ s) _ HM7.out HY7.out (by simp) (by omega)).mono ?_
            rintro e w8 ⟨v8, rfl, ho8, k8⟩
            have k9 := turn_trans k7 k8 (by omega)
            rw [HAP.out] at ho8
            have z8 := k7.size
            go_wp2_with fail
            go_ret2
            refine ⟨_, by rw [HO.out]; rfl, ?_, k9⟩
            rw [HR.out]
            exact ⟨own_base ho8.1 (by omega), Nat.le_refl _, fun g e => by have := (ho8.1.lt g e).2; omega⟩
    · have hd : decide (8 < (l.length : Int)) = true := by simp; omega
      have HO := Lib.hid (rndOk_big h8)
      have HR := Lib.hid (rndR_no (s := s) HO.out)
      generalize hnn : l.length = n at *
      clear hnn
      go_enter Tryd.func50, Tryd.ntmps50
      go_wp2_with fail
      refine (l7Shares_own _ l _ HV.out).mono ?_
      rintro e w1 ⟨rfl, k1⟩
      rw [HS.out]
      go_wp2_with fail
      go_ret2
      exact ⟨_, by rw [HO.out]; rfl, by rw [HR.out]; exact ⟨World.ownsRow_nil _ _ _ _, Nat.le_refl _, fun g e => by simp [Value.ownBlock] at e⟩, k1⟩
  · have HS : Hid (shrOk l = false) := by show _ = _; simpa using hs
    have HO := Lib.hid (rndOk_no HS.out)
    have HR := Lib.hid (rndR_no (s := s) HO.out)
    clear hs
    generalize hnn : l.length = n at *
    clear hnn
    go_enter Tryd.func50, Tryd.ntmps50
    go_wp2_with fail
    refine (l7Shares_own _ l _ HV.out).mono ?_
    rintro e w1 ⟨rfl, k1⟩
    rw [HS.out]
    go_wp2_with fail
    go_ret2
    exact ⟨_, by rw [HO.out]; rfl, by rw [HR.out]; exact ⟨World.ownsRow_nil _ _ _ _, Nat.le_refl _, fun g e => by simp [Value.ownBlock] at e⟩, k1⟩

end Go.Proofs.YtgbhcjfnkjhkiaaDoor

/- The table of remainders, out of what a row lays. -/
namespace Go.Proofs.YtgbhcjfnkjhkiaaDoor
open Go.ChangeShapes Go.WideShapes Go.ChangeAt Go.RowKit

theorem byte_of_wf {x : Int} (h : (Lit.int .u8 x).wf = true) : ∃ n : Nat, n < 256 ∧ x = n := by
  have hb := bounds_u8 h
  exact ⟨x.toNat, by omega, by omega⟩
theorem tab_of {laid : List (String × DataW Unit)} {W : World} (hpl : (laid.all fun x => x.2.handleName?.isNone) = true) (h : laidMetH Tryd.prog laid W) (i : Nat) {name : String}
    (hi : laid[i]? = some (name, Lib.tabData .u8 [27, 54, 108, 216, 171, 77, 154])) (hg : Tryd.prog.globalNamed name = some 0) : Tab W ∧ 0 < W.heap.size := by
  obtain ⟨hc, hs⟩ := G294.tab_of_laid hpl h i (g := 0) (t := 194) (e := 5) (n := 7) hi hg (by kernel_rfl) Tryd.underlying194 Tryd.underlying5 (by kernel_rfl) (by kernel_rfl)
  refine ⟨fun k hk => ?_, hs⟩
  have := hc k (by simpa using hk)
  rw [this]
  have : k = 0 ∨ k = 1 ∨ k = 2 ∨ k = 3 ∨ k = 4 ∨ k = 5 ∨ k = 6 := by omega
  rcases this with rfl | rfl | rfl | rfl | rfl | rfl | rfl <;> rfl

end Go.Proofs.YtgbhcjfnkjhkiaaDoor
