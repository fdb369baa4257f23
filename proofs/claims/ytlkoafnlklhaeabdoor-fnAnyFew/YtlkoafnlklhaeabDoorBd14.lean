/- Joined texts: Same3, SpecCheck, Check, Frame, TabOf, OpenArgs, MatLaws. -/
import Derived.Deep.QuietTactic
import Derived.BigQuiet
import Derived.Test.YtlkoafnlklhaeabDoorBd01
import Derived.Test.YtlkoafnlklhaeabDoorBd02
import Derived.Test.YtlkoafnlklhaeabDoorBd04
import Derived.Test.YtlkoafnlklhaeabDoorBd13
import Derived.IntWalk
import Derived.Laws.StructEq
import Derived.WalkMore
import Derived.Shelf.SlicesE.Kit
import Derived.WalkKit
import Derived.ProofKit
import Derived.LaidMore
import Derived.OpenShut
import Derived.Stop.Joined
import Derived.WalkSmall
import Derived.Lib.LaidTab
import Derived.MakeChecks
import Derived.Test.YtlkoafnlklhaeabDoorRows
import Derived.Test.YtlkoafnlklhaeabDoorBd03
import Derived.Test.YtlkoafnlklhaeabDoorBd00
set_option linter.unusedSimpArgs false
set_option linter.unusedVariables false
/- The laws' comparisons of texts, shards and matrices, and someOf. -/
namespace Go.Proofs.YtlkoafnlklhaeabDoor
open Go.RowKit G294

set_option maxRecDepth 100000 in
set_option maxHeartbeats 1000000 in
theorem sameTexts_same (v u : Value) (l : List (List UInt8)) (w : World) (hv : Seen w v (strs l)) (hu : Seen w u (strs l)) :
    Calls Tryd.prog 14 #[v, u] w (RetBool w true) := by
  obtain ⟨A, c, rfl, hlc, hcm, hx⟩ := hv
  obtain ⟨A', c', rfl, hlc', hcm', hx'⟩ := hu
  rw [strs_length] at hlc hx hlc' hx'
  simp only [strs_length]
  unfold maxLen at hcm hcm'
  generalize hnn : l.length = n at *
  have HN := Lib.hid hnn
  clear hnn
  have hbn : ((n : Int) != (n : Int)) = false := by simp
  go_enter Tryd.func14, Tryd.ntmps14
  go_wp2_with fail
  go_loopw [13] (fun i wr => ∃ k : Nat, k ≤ n ∧ i = .int .i64 k ∧ Below w.heap.size w wr)
    (fun i _ => n - (intOf i).toNat)
  case atStart => exact ⟨0, Nat.zero_le _, rfl, Below.refl _ _⟩
  case round =>
    obtain ⟨k, hk, rfl, hb⟩ := hrel
    by_cases hlt : k < n
    · obtain ⟨b, off, rfl, hbl, hcell⟩ := hx (by omega)
      obtain ⟨b', off', rfl, hbl', hcell'⟩ := hx' (by omega)
      have hkl : k < l.length := by rw [HN.out]; exact hlt
      have hcx : wr.cell? ⟨b, off + k, none⟩ = some (.string (str l[k])) := (hb.cell (p := ⟨b, off + k, none⟩) hbl).trans (hcell k _ (strs_get l k hkl))
      have hcy : wr.cell? ⟨b', off' + k, none⟩ = some (.string (str l[k])) := (hb.cell (p := ⟨b', off' + k, none⟩) hbl').trans (hcell' k _ (strs_get l k hkl))
      clear hcell hcell' hx hx'
      have hki : (k : Int) < (n : Int) := by omega
      have hbb := str_same l[k]
      go_wp2_with fail
      go_quiet (fail)
      go_wp2_with fail
      go_roundw
      case rel => exact ⟨k + 1, by omega, by go_num, below_drewN hb _⟩
      case measure => simp [intOf]; omega
    · obtain rfl : k = n := by omega
      have hki : ¬ (k : Int) < (k : Int) := by omega
      go_wp2_with fail
      go_ret
      exact ⟨rfl, TurnIn.of_below hb⟩

set_option maxRecDepth 100000 in
set_option maxHeartbeats 1000000 in
theorem sameShards_same (v u : Value) (l : List Sh) (w : World) (hv : SeenH w v l) (hu : SeenH w u l) :
    Calls Tryd.prog 19 #[v, u] w (RetBool w true) := by
  obtain ⟨A, c, rfl, hlc, hcm, hx⟩ := hv
  obtain ⟨A', c', rfl, hlc', hcm', hx'⟩ := hu
  unfold maxLen at hcm hcm'
  generalize hnn : l.length = n at *
  have HN := Lib.hid hnn
  clear hnn
  have hbn : ((n : Int) != (n : Int)) = false := by simp
  go_enter Tryd.func19, Tryd.ntmps19
  go_wp2_with fail
  go_loopw [13] (fun i wr => ∃ k : Nat, k ≤ n ∧ i = .int .i64 k ∧ Below w.heap.size w wr)
    (fun i _ => n - (intOf i).toNat)
  case atStart => exact ⟨0, Nat.zero_le _, rfl, Below.refl _ _⟩
  case round =>
    obtain ⟨k, hk, rfl, hb⟩ := hrel
    by_cases hlt : k < n
    · obtain ⟨b, off, rfl, hbl, hcell⟩ := hx (by omega)
      obtain ⟨b', off', rfl, hbl', hcell'⟩ := hx' (by omega)
      have hkl : k < l.length := by rw [HN.out]; exact hlt
      have hq : l[k]? = some l[k] := List.getElem?_eq_getElem hkl
      generalize l[k] = x at *
      obtain ⟨x0, x1⟩ := x
      obtain ⟨e0, e1⟩ := hcell k _ hq
      obtain ⟨e0', e1'⟩ := hcell' k _ hq
      have cx0 := (hb.cell (p := ⟨b, off + k * 2, none⟩) hbl).trans e0
      have cx1 := (hb.cell (p := ⟨b, off + k * 2 + 1, none⟩) hbl).trans e1
      have cy0 := (hb.cell (p := ⟨b', off' + k * 2, none⟩) hbl').trans e0'
      have cy1 := (hb.cell (p := ⟨b', off' + k * 2 + 1, none⟩) hbl').trans e1'
      clear hcell hcell' hx hx' e0 e1 e0' e1' hq
      have hki : (k : Int) < (n : Int) := by omega
      have hbb := str_same x1
      have hxx : (x0 == x0) = true := by simp
      go_wp2_with fail
      go_quiet (fail)
      go_wp2_with fail
      go_roundw
      case rel => exact ⟨k + 1, by omega, by go_num, below_drewN hb _⟩
      case measure => simp [intOf]; omega
    · obtain rfl : k = n := by omega
      have hki : ¬ (k : Int) < (k : Int) := by omega
      go_wp2_with fail
      go_ret
      exact ⟨rfl, TurnIn.of_below hb⟩

/-- whether someOf takes number t for its byte -/
def evenAt (l : List UInt8) (t : Nat) : Bool := (l.getD t 0).toNat % 2 == 0

set_option maxRecDepth 100000 in
set_option maxHeartbeats 2000000 in
theorem someOf_own (n least : Nat) (v : Value) (l : List UInt8) (w : World) (hv : Seen w v (bys l)) (hn : n ≤ 1000) (hl : least ≤ n) :
    Calls Tryd.prog 20 #[.int .i64 n, .int .i64 least, v] w (RetInts 3 w ((takes n least (evenAt l) n).map fun (i : Nat) => (i : Int))) := by
  obtain ⟨A, c, rfl, hlc, hcm, hx⟩ := hv
  rw [bys_length] at hlc hx
  simp only [bys_length]
  unfold maxLen at hcm
  generalize hmm : l.length = m at *
  have HM := Lib.hid hmm
  have HX := Lib.hid hx
  clear hmm hx
  go_enter Tryd.func20, Tryd.ntmps20
  go_wp2_with fail
  go_loopw [7, 8] (fun o i wr => ∃ t : Nat, t ≤ n ∧ i = .int .i64 t ∧ wr.ownsRow w.heap.size 3 1 o (takes n least (evenAt l) t).length (ints ((takes n least (evenAt l) t).map fun (i : Nat) => (i : Int))) ∧ Below w.heap.size w wr)
    (fun _ i _ => n - (intOf i).toNat)
  case atStart => exact ⟨0, Nat.zero_le _, rfl, World.ownsRow_nil _ _ _ _, Below.refl _ _⟩
  case round =>
    obtain ⟨t, ht, rfl, hown, hb⟩ := hrel
    by_cases hlt : t < n
    · have hti : (t : Int) < (n : Int) := by omega
      obtain ⟨-, hinv, hlen⟩ := takes_inv hl (evenAt l) t (by omega)
      have HTK : Hid (takes n least (evenAt l) (t + 1) = if n - t ≤ least - (takes n least (evenAt l) t).length ∨ evenAt l t = true then takes n least (evenAt l) t ++ [t] else takes n least (evenAt l) t) := rfl
      obtain ⟨A7, n7, c7, rfl⟩ := own_isSlice hown
      have hn7 : n7 = (takes n least (evenAt l) t).length := by
        rcases hown.2 with ⟨hh, h0⟩ | ⟨g', c', cur, hh, _⟩
        · simp at hh; omega
        · simp at hh; exact hh.2.1
      subst hn7
      generalize hz : (takes n least (evenAt l) t).length = z at *
      have HZ := Lib.hid hz
      clear hz
      obtain ⟨x, hx1, hx2⟩ : ∃ x : UInt8, x = l.getD t 0 ∧ evenAt l t = (x.toNat % 2 == 0) := ⟨_, rfl, rfl⟩
      have HEV := Lib.hid hx2
      clear hx2
      have hxm : x.toNat < 256 := x.toNat_lt
      by_cases htm : t < m
      · have htmi : (t : Int) < (m : Int) := by omega
        have htmd : decide ((t : Int) < (m : Int)) = true := by simpa using htmi
        obtain ⟨b, off, rfl, hbl, hcell⟩ := HX.out (by omega)
        have hkl : t < l.length := by rw [HM.out]; exact htm
        have hcx : wr.cell? ⟨b, off + t, none⟩ = some (.int .u8 (x.toNat : Int)) := by
          have := (hb.cell (p := ⟨b, off + t, none⟩) hbl).trans (hcell t _ (bys_get l t hkl))
          rw [this, hx1]; simp [List.getD, hkl]
        have hwx : IntKind.i64.wrap (x.toNat : Int) = (x.toNat : Int) := IntWalk.i64_in _ (by omega)
        clear hcell hx1
        by_cases hc1 : n - t ≤ least - z
        · have hd1 : decide ((n : Int) - (t : Int) ≤ (least : Int) - (z : Int)) = true := by simp; omega
          have HC : Hid (n - t ≤ least - z ∨ evenAt l t = true) := Or.inl hc1
          go_wp2_with (at_builtin; refine wpList_append1 rfl _ _ _ rfl w.heap.size 3 _ _ Tryd.underlying47 infoInt rfl _ z _ rfl (hown.alloc _) wr.heap.size (.int .i64 t) rfl ?c1 rfl ?c2 ?c3 ?c4 ?_)
          case c1 => simp
          case c2 => omega
          case c3 => omega
          case c4 => have := hb.size; simp; omega
          intro v' w' hown' hg' _
          have hb' : Below w.heap.size w w' := below_append (hb.alloc hb.size _) (hown.alloc _) hg' (Nat.le_refl _) (by have := hb.size; simp; omega)
          have HO2 : Hid (w'.ownsRow w.heap.size 3 1 v' (takes n least (evenAt l) (t + 1)).length (ints ((takes n least (evenAt l) (t + 1)).map fun (i : Nat) => (i : Int)))) := by
            show World.ownsRow _ _ _ _ _ _ _
            rw [HTK.out, if_pos HC.out, List.map_append, ints_append, List.length_append, HZ.out]; exact hown'
          clear hown' hg'
          go_wp2_with fail
          go_roundw
          case rel => exact ⟨t + 1, by omega, by go_num, HO2.out, hb'⟩
          case measure => simp [intOf]; omega
        · have hd1 : decide ((n : Int) - (t : Int) ≤ (least : Int) - (z : Int)) = false := by simp; omega
          by_cases hev : x.toNat % 2 = 0
          · have HC : Hid (n - t ≤ least - z ∨ evenAt l t = true) := Or.inr (by rw [HEV.out]; simpa using hev)
            have hr0 : ((x.toNat : Int) % 2 == 0) = true := by simp; omega
            have hr1 : ((x.toNat : Int).tmod 2 == 0) = true := by rw [Int.tmod_eq_emod_of_nonneg (by omega)]; exact hr0
            go_wp2_with (at_builtin; refine wpList_append1 rfl _ _ _ rfl w.heap.size 3 _ _ Tryd.underlying47 infoInt rfl _ z _ rfl (hown.alloc _) wr.heap.size (.int .i64 t) rfl ?c1 rfl ?c2 ?c3 ?c4 ?_)
            case c1 => simp
            case c2 => omega
            case c3 => omega
            case c4 => have := hb.size; simp; omega
            intro v' w' hown' hg' _
            have hb' : Below w.heap.size w w' := below_append (hb.alloc hb.size _) (hown.alloc _) hg' (Nat.le_refl _) (by have := hb.size; simp; omega)
            have HO2 : Hid (w'.ownsRow w.heap.size 3 1 v' (takes n least (evenAt l) (t + 1)).length (ints ((takes n least (evenAt l) (t + 1)).map fun (i : Nat) => (i : Int)))) := by
              show World.ownsRow _ _ _ _ _ _ _
              rw [HTK.out, if_pos HC.out, List.map_append, ints_append, List.length_append, HZ.out]; exact hown'
            clear hown' hg'
            go_wp2_with fail
            go_roundw
            case rel => exact ⟨t + 1, by omega, by go_num, HO2.out, hb'⟩
            case measure => simp [intOf]; omega
          · have HC : Hid (¬ (n - t ≤ least - z ∨ evenAt l t = true)) := by
              rintro (h | h)
              · exact hc1 h
              · rw [HEV.out] at h; exact hev (by simpa using h)
            have hr0 : ((x.toNat : Int) % 2 == 0) = false := by simp; omega
            have hr1 : ((x.toNat : Int).tmod 2 == 0) = false := by rw [Int.tmod_eq_emod_of_nonneg (by omega)]; exact hr0
            have HO2 : Hid (wr.ownsRow w.heap.size 3 1 (.slice A7 z c7) (takes n least (evenAt l) (t + 1)).length (ints ((takes n least (evenAt l) (t + 1)).map fun (i : Nat) => (i : Int)))) := by
              show World.ownsRow _ _ _ _ _ _ _
              rw [HTK.out, if_neg HC.out, HZ.out]; exact hown
            go_wp2_with fail
            go_roundw
            case rel => exact ⟨t + 1, by omega, by go_num, HO2.out, hb⟩
            case measure => simp [intOf]; omega
      · have htmi : ¬ (t : Int) < (m : Int) := by omega
        have htmd : decide ((t : Int) < (m : Int)) = false := by simpa using htmi
        have hx0 : x = 0 := by
          rw [hx1]
          have : l.length ≤ t := by rw [HM.out]; omega
          simp [List.getD, this]
        have HC : Hid (n - t ≤ least - z ∨ evenAt l t = true) := Or.inr (by rw [HEV.out, hx0]; rfl)
        clear hx0 hx1 HEV hxm
        by_cases hc1 : n - t ≤ least - z
        · have hd1 : decide ((n : Int) - (t : Int) ≤ (least : Int) - (z : Int)) = true := by simp; omega
          go_wp2_with (at_builtin; refine wpList_append1 rfl _ _ _ rfl w.heap.size 3 _ _ Tryd.underlying47 infoInt rfl _ z _ rfl (hown.alloc _) wr.heap.size (.int .i64 t) rfl ?c1 rfl ?c2 ?c3 ?c4 ?_)
          try (case c1 => simp)
          case c2 => omega
          try (case c3 => omega)
          case c4 => have := hb.size; simp; omega
          intro v' w' hown' hg' _
          have hb' : Below w.heap.size w w' := below_append (hb.alloc hb.size _) (hown.alloc _) hg' (Nat.le_refl _) (by have := hb.size; simp; omega)
          have HO2 : Hid (w'.ownsRow w.heap.size 3 1 v' (takes n least (evenAt l) (t + 1)).length (ints ((takes n least (evenAt l) (t + 1)).map fun (i : Nat) => (i : Int)))) := by
            show World.ownsRow _ _ _ _ _ _ _
            rw [HTK.out, if_pos HC.out, List.map_append, ints_append, List.length_append, HZ.out]; exact hown'
          clear hown' hg'
          go_wp2_with fail
          go_roundw
          case rel => exact ⟨t + 1, by omega, by go_num, HO2.out, hb'⟩
          case measure => simp [intOf]; omega
        · have hd1 : decide ((n : Int) - (t : Int) ≤ (least : Int) - (z : Int)) = false := by simp; omega
          go_wp2_with (at_builtin; refine wpList_append1 rfl _ _ _ rfl w.heap.size 3 _ _ Tryd.underlying47 infoInt rfl _ z _ rfl (hown.alloc _) wr.heap.size (.int .i64 t) rfl ?c1 rfl ?c2 ?c3 ?c4 ?_)
          try (case c1 => simp)
          case c2 => omega
          try (case c3 => omega)
          case c4 => have := hb.size; simp; omega
          intro v' w' hown' hg' _
          have hb' : Below w.heap.size w w' := below_append (hb.alloc hb.size _) (hown.alloc _) hg' (Nat.le_refl _) (by have := hb.size; simp; omega)
          have HO2 : Hid (w'.ownsRow w.heap.size 3 1 v' (takes n least (evenAt l) (t + 1)).length (ints ((takes n least (evenAt l) (t + 1)).map fun (i : Nat) => (i : Int)))) := by
            show World.ownsRow _ _ _ _ _ _ _
            rw [HTK.out, if_pos HC.out, List.map_append, ints_append, List.length_append, HZ.out]; exact hown'
          clear hown' hg'
          go_wp2_with fail
          go_roundw
          case rel => exact ⟨t + 1, by omega, by go_num, HO2.out, hb'⟩
          case measure => simp [intOf]; omega
    · obtain rfl : t = n := by omega
      have hti : ¬ (t : Int) < (t : Int) := by omega
      go_wp2_with fail
      go_ret
      refine ⟨_, rfl, OwnInts.of_made ?_, TurnIn.of_below hb⟩
      rw [List.length_map]; exact hown

end Go.Proofs.YtlkoafnlklhaeabDoor

/- CheckShards, the model's. -/
namespace G294
open Go Go.RowKit
/-- two bools are returned -/
def RetBools (w : World) (a b : Bool) (e : Ending) (w' : World) : Prop := e = .returned (.tuple #[.bool a, .bool b]) ∧ TurnIn 0 0 w w'
theorem str_ne_iff (a b : List UInt8) : ((str a).toList != (str b).toList) = !decide (a = b) := by
  rw [str_toList, str_toList]
  by_cases h : a = b <;> simp [h]
theorem str_eq_iff (a b : List UInt8) : ((str a).toList == (str b).toList) = decide (a = b) := by
  rw [str_toList, str_toList]
  by_cases h : a = b <;> simp [h]
end G294
namespace Go.Proofs.YtlkoafnlklhaeabDoor
open Go.RowKit Go.Shelf G294

set_option maxRecDepth 100000 in
set_option maxHeartbeats 2000000 in
theorem sCheckShards_own (v : Value) (l : List Sh) (k m : Int) (w : World) (hv : SeenH w v l) :
    Calls Tryd.prog 9 #[v, .int .i64 k, .int .i64 m] w (RetBools w (chkR l k m) (decOk l k m)) := by
  have HV := Lib.hid hv
  obtain ⟨A, cp, rfl, hlc, hcm, hx⟩ := hv
  unfold maxLen at hcm
  by_cases hd : decOk l k m = true
  · have HD := Lib.hid hd
    have hbs := shapeOk_b (decOk_shape hd)
    have h40 := shards_40 (decOk_shards hd)
    obtain ⟨p, rfl⟩ := Int.eq_ofNat_of_zero_le (show 0 ≤ k by omega)
    obtain ⟨q, rfl⟩ := Int.eq_ofNat_of_zero_le (show 0 ≤ m by omega)
    have HNO := Lib.hid (shards_no (decOk_shards hd))
    have HDL := Lib.hid (decR_length hd)
    have HDR := Lib.hid (decR_row hd)
    have HCK := Lib.hid (chkR_yes hd)
    have HX := Lib.hid hx
    clear hd hx
    generalize hL : l.length = L at *
    have HL := Lib.hid hL
    clear hL
    go_enter Tryd.func9, Tryd.ntmps9
    go_wp2_with fail
    refine (sDecodeShards_own _ l p q _ HV.out).mono ?_
    rintro e w1 ⟨v1, rfl, o1, k1⟩
    obtain ⟨A1, n1, c1', rfl⟩ := o1.isSlice
    rw [HD.out]
    have hs1 := k1.size
    have HO1 := Lib.hid o1
    clear o1
    go_wp2_with fail
    refine (l3Matrix_own p q _ (by omega) (by omega) (by omega) (by omega)).mono ?_
    rintro e w2 ⟨v2, vs2, rfl, hM2, k2⟩
    obtain ⟨A2, n2, c2, rfl⟩ := hM2.isSlice
    have hs2 := k2.size
    have HM2 := Lib.hid hM2
    have HO2 := Lib.hid (HO1.out.keep k2 (by omega))
    clear hM2
    go_wp2_with fail
    refine (l3Rows_own (p + q) p (lenH l) (codF p) (decR l p q) _ _ _ HM2.out.seen HO2.out.seen HDL.out (by omega) (by omega) (by omega) HDR.out (by omega)).mono ?_
    rintro e w3 ⟨v3, rfl, o3, k3⟩
    have hs3 := k3.size
    have KF := Lib.hid (turn_trans (turn_trans k1 k2 (by omega)) k3 (by omega))
    obtain ⟨A3, c3, hv3, _, hcm3, hx3⟩ := o3.seen
    rw [strs_length, rowsT_length] at hv3
    obtain ⟨b3, off3, rfl, hb3, hc3⟩ := hx3 (by rw [strs_length, rowsT_length]; omega)
    subst hv3
    unfold maxLen at hcm3
    have HC3 : Hid (∀ t, t < p + q → w3.cell? ⟨b3, off3 + t, none⟩ = some (.string (str (comb p (lenH l) (codF p t) (decR l p q))))) := fun t ht => by
      have htl : t < (rowsT (p + q) p (lenH l) (codF p) (decR l p q)).length := by rw [rowsT_length]; omega
      rw [hc3 t _ (strs_get _ t htl)]
      simp [rowsT, mkM, comb]
    generalize hff : (fun j => comb p (lenH l) (codF p j) (decR l p q)) = f at *
    have HC4 : Hid (∀ t, t < p + q → w3.cell? ⟨b3, off3 + t, none⟩ = some (.string (str (f t)))) := by
      rw [← hff]; exact HC3.out
    clear hx3 hc3 o3 k1 k2 k3 hff HC3 HO1 HO2 HM2 HDL HDR
    generalize hr : p + q = r at *
    have HRR := Lib.hid hr
    clear hr
    go_wp2_with fail
    go_loopw [29] (fun i wr => ∃ j : Nat, j ≤ L ∧ i = .int .i64 j ∧ Hid (∀ (i : Nat) (s : Sh), i < j → l[i]? = some s → s.2 = f s.1.toNat) ∧ Below w3.heap.size w3 wr) (fun i _ => L - (intOf i).toNat)
    case atStart => exact ⟨0, Nat.zero_le _, rfl, (fun i s hi => by omega), Below.refl _ _⟩
    case round =>
      obtain ⟨j, hj, rfl, HM, hb⟩ := hrel
      have hbz := hb.size
      have HBW : Hid (Below w.heap.size w wr) := KF.out.to_below.trans (hb.mono (by have := KF.out.size; omega))
      by_cases hlt : j < L
      · have hji : (j : Int) < (L : Int) := by omega
        obtain ⟨b, off, rfl, hbl, hcell⟩ := HX.out (by omega)
        obtain ⟨⟨no, s⟩, hks⟩ := at_lt HL.out hlt
        have hn2 := HNO.out j _ hks
        simp only at hn2
        obtain ⟨no, rfl⟩ := Int.eq_ofNat_of_zero_le hn2.1
        have hnr : no < r := by have := HRR.out; omega
        have cc1 := (HBW.out.cell (p := ⟨b, off + j * 2, none⟩) hbl).trans (hcell j _ hks).1
        have cc2 := (HBW.out.cell (p := ⟨b, off + j * 2 + 1, none⟩) hbl).trans (hcell j _ hks).2
        simp only at cc1 cc2
        have ca := (hb.cell (p := ⟨b3, off3 + no, none⟩) hb3).trans (HC4.out no hnr)
        have hn0 : (0 : Int) ≤ (no : Int) := by omega
        have hn1 : (no : Int) < (r : Int) := by omega
        have ca2 : (wr.alloc (.cells #[.int .i64 no, .string (str s)] 27)).cell? ⟨b3, off3 + no, none⟩ = some (.string (str (f no))) := cell_turn (turn_alloc _ _) ca (by omega)
        have cs1 := alloc_pair0' wr (.int .i64 no) (.string (str s)) 27
        have cs2 := alloc_pair1' wr (.int .i64 no) (.string (str s)) 27
        have hb2 := hb.alloc hbz (.cells #[.int .i64 no, .string (str s)] 27)
        have HKS := Lib.hid hks
        clear hcell hks hn2
        by_cases he : s = f no
        · have hbb : ((str (f no)).toList != (str s).toList) = false := by rw [str_ne_iff, he]; simp
          have hbe : ((str (f no)).toList == (str s).toList) = true := by rw [str_eq_iff, he]; simp
          have HE := Lib.hid he
          clear he
          go_wp2_with fail
          generalize (wr.alloc (.cells #[.int .i64 no, .string (str s)] 27)) = W1 at *
          go_quiet (fail)
          go_wp2_with fail
          go_roundw
          case rel => exact ⟨j + 1, by omega, by go_num, (fun i x hi hx => by
            by_cases e : i < j
            · exact HM.out i x e hx
            · obtain rfl : i = j := by omega
              have e1 := HKS.out
              rw [hx] at e1
              cases e1
              simpa using HE.out), below_drewN hb2 _⟩
          case measure => simp [intOf]; omega
        · have hbb : ((str (f no)).toList != (str s).toList) = true := by rw [str_ne_iff]; simpa using fun e => he e.symm
          have hbe : ((str (f no)).toList == (str s).toList) = false := by rw [str_eq_iff]; simpa using fun e => he e.symm
          have HF : Hid (chkR l p q = false) := by
            show chkR l p q = false
            rw [HCK.out, ← Bool.not_eq_true, matchB_iff]
            intro hall
            have := hall j _ HKS.out
            simp at this
            exact he this
          clear he
          go_wp2_with fail
          generalize (wr.alloc (.cells #[.int .i64 no, .string (str s)] 27)) = W1 at *
          go_quiet (fail)
          go_wp2_with fail
          go_ret2
          exact ⟨by rw [HF.out, HD.out]; rfl, TurnIn.of_below (KF.out.to_below.trans ((below_drewN hb2 _).mono KF.out.size))⟩
      · obtain rfl : j = L := by omega
        have hji : ¬ (j : Int) < (j : Int) := by omega
        have HF : Hid (chkR l p q = true) := by
          show chkR l p q = true
          rw [HCK.out, matchB_iff]
          exact fun i s hs => HM.out i s (by have := (List.getElem?_eq_some_iff.1 hs).1; have := HL.out; omega) hs
        go_wp2_with fail
        go_ret2
        exact ⟨by rw [HF.out, HD.out]; rfl, TurnIn.of_below HBW.out⟩
  · have hd' : decOk l k m = false := by simpa using hd
    have HD := Lib.hid hd'
    have HF := Lib.hid (chkR_no hd')
    clear hd hd' hx
    go_enter Tryd.func9, Tryd.ntmps9
    go_wp2_with fail
    refine (sDecodeShards_own _ l k m _ HV.out).mono ?_
    rintro e w1 ⟨v1, rfl, o1, k1⟩
    obtain ⟨A1, n1, c1', rfl⟩ := o1.isSlice
    rw [HD.out]
    clear o1
    go_wp2_with fail
    go_ret2
    exact ⟨by rw [HF.out, HD.out]; rfl, k1⟩

end Go.Proofs.YtlkoafnlklhaeabDoor

/- CheckShards, the program's. -/
namespace G294
open Go Go.RowKit
theorem keepBut_grown {n₀ Bs : Nat} {W0 X Y : World} {row : Option Nat} (h : KeepBut n₀ Bs W0 X) (hg : X.grownBy Y row) (hr : ∀ r, row = some r → n₀ ≤ r) (hs : n₀ ≤ W0.heap.size) : KeepBut n₀ Bs W0 Y :=
  ⟨hg.os.trans h.os, hg.tape.trans h.tape, hg.output.trans h.output, Nat.le_trans h.size hg.size, fun k hk hne => (hg.block k (by have := h.size; omega) (fun e => by have := hr k e.symm; omega)).trans (h.block k hk hne)⟩
theorem keepBut_drew (n₀ Bs : Nat) (W : World) : KeepBut n₀ Bs W W.drew := ⟨rfl, rfl, rfl, Nat.le_refl _, fun _ _ _ => rfl⟩
theorem keepBut_set (n₀ Bs : Nat) (W : World) (v : Value) : KeepBut n₀ Bs W (W.setCell ⟨Bs, 0, none⟩ v) :=
  ⟨rfl, rfl, rfl, by simp, fun k _ hne => heap_setCell_other W ⟨Bs, 0, none⟩ k v (by intro e; simp at e; omega)⟩
theorem stp_full {l : List Sh} {t : Nat} (x : Sh) (h : t = l.length) : stp l t x = none := if_pos h
theorem stp_hit {l : List Sh} {t : Nat} {x : Sh} (h : l[t]? = some x) : stp l t x = some (t + 1) := by
  have hl := (List.getElem?_eq_some_iff.1 h).1
  unfold stp
  rw [if_neg (by omega), if_pos (by simp [List.getD, h])]
theorem stp_bad {l : List Sh} {t : Nat} {x y : Sh} (h : l[t]? = some y) (hne : ¬ x = y) (hn : x.1 = y.1) : stp l t x = none := by
  have hl := (List.getElem?_eq_some_iff.1 h).1
  unfold stp
  rw [if_neg (by omega), if_neg (by simpa [List.getD, h] using hne), if_pos (by simpa [List.getD, h] using hn)]
theorem stp_on {l : List Sh} {t : Nat} {x y : Sh} (h : l[t]? = some y) (hne : ¬ x = y) (hn : ¬ x.1 = y.1) : stp l t x = some t := by
  have hl := (List.getElem?_eq_some_iff.1 h).1
  unfold stp
  rw [if_neg (by omega), if_neg (by simpa [List.getD, h] using hne), if_neg (by simpa [List.getD, h] using hn)]
theorem prefix_mk {f : Nat → List UInt8} {r : Nat} {pre : List Sh} {x : Sh} (h : pre ++ [x] <+: mk f r) : pre = mk f pre.length ∧ x = ((pre.length : Int), f pre.length) := by
  obtain ⟨t, ht⟩ := h
  have hl : pre.length < r := by
    have := congrArg List.length ht
    simp [mk] at this; omega
  constructor
  · have e : pre = (mk f r).take pre.length := by rw [← ht]; simp
    rw [e]
    simp [mk, ← List.map_take, List.take_range]
    try omega
  · have hg : (mk f r)[pre.length]? = some x := by rw [← ht]; simp
    have hg2 : (mk f r)[pre.length]? = some ((pre.length : Int), f pre.length) := by simp [mk, hl]
    exact Option.some.inj (hg.symm.trans hg2)
theorem cell_of_heap' {w : World} {B o : Nat} {cs : Array Value} {T : TypeId} {fr : Nat × Nat} {v : Value} (h : w.heap[B]? = some (.cells cs T fr)) (hv : cs[o]? = some v) : w.cell? ⟨B, o, none⟩ = some v := by
  simp [World.cell?, h, hv]
end G294
namespace Go.Proofs.YtlkoafnlklhaeabDoor
open Go.RowKit Go.Shelf G294

attribute [local go_sem] Oper.semAt_some

set_option maxRecDepth 100000 in
theorem eqlShard (a b : Int) (x y : List UInt8) (w : World) : (binOp .eql 27 (.agg #[.int .i64 a, .string (str x)]) (.agg #[.int .i64 b, .string (str y)])).run Tryd.prog w = .ok (.bool (decide ((a, x) = (b, y)))) w := by
  have u3 := Tryd.underlying3
  have u9 := Tryd.underlying9
  have hS : Tryd.prog.underlying 27 = some (.struct (Tryd.prog.fieldsOf 27)) := by kernel_rfl
  have hp : Tryd.prog.stoodInHeld 27 = false := by kernel_rfl
  rw [run_eql_struct, show (10000 : Nat) = 9999 + 1 from rfl, run_equalIn_agg w 9999 27 _ _ hS hp]
  simp only [Program.fieldsOf, Tryd.underlying27]
  go_simp
  have hh : (str x).toList = (str y).toList ↔ x = y := by rw [str_toList, str_toList]
  by_cases h1 : a = b <;> by_cases h2 : x = y <;> simp [h1, h2, hh]

set_option maxRecDepth 100000 in
set_option maxHeartbeats 3000000 in
theorem allAmong_own (v : Value) (l : List Sh) (p q Bm Bt : Nat) (Am At : Option Addr) (nm cm nt ct : Nat) (w : World) (hv : SeenH w v l) (hd : decOk l p q = true)
    (bM : Boxed w Bm 52 (.slice Am nm cm)) (bT : Boxed w Bt 35 (.slice At nt ct)) (oM : SeenM w (.slice Am nm cm) (codM p q)) (oT : Seen w (.slice At nt ct) (strs (decR l p q))) (ht : Tab w) (h0 : 0 < w.heap.size) :
    Calls Tryd.prog 33 #[v, .func (.func 58) #[] #[.pointer (some ⟨Bm, 0, none⟩), .pointer (some ⟨Bt, 0, none⟩)]] w (RetBool w (chkR l p q)) := by
  have HV := Lib.hid hv
  have HTB := Lib.hid ht
  have HOM := Lib.hid oM
  have HOT := Lib.hid oT
  have HBM := Lib.hid bM
  have HBT := Lib.hid bT
  have hbs := shapeOk_b (decOk_shape hd)
  have h40 := shards_40 (decOk_shards hd)
  have HDL := Lib.hid (decR_length hd)
  have HDR := Lib.hid (decR_row hd)
  have HCK := Lib.hid (chkR_yes hd)
  have HSO : Hid (shardsOk l ((p + q : Nat) : Int) = true) := by
    show shardsOk l ((p + q : Nat) : Int) = true
    rw [← show (p : Int) + (q : Int) = ((p + q : Nat) : Int) by omega]; exact decOk_shards hd
  obtain ⟨A, cp, rfl, hlc, hcm, hx⟩ := hv
  have HX := Lib.hid hx
  unfold maxLen at hcm
  clear ht oM oT bM bT hd hx
  have hSF : shardsF (p + q) p (lenH l) (codF p) (decR l p q) = mk (fun j => comb p (lenH l) (codF p j) (decR l p q)) (p + q) := rfl
  have HSF := Lib.hid hSF
  clear hSF
  have hL2 := List.length_nil (α := Nat)
  clear hL2
  generalize hL : l.length = L at *
  have HL := Lib.hid hL
  clear hL
  have hmx : Tryd.prog.follows .mixedOrders = true := by kernel_rfl
  have b0 := (Boxed.new w 23 (.slice A L cp)).alloc (.cells #[.int .i64 0] 3)
  have b1 := Boxed.new (w.alloc (.cells #[.slice A L cp] 23)) 3 (.int .i64 0)
  rw [World.size_alloc] at b1
  have k0 : TurnIn 0 0 w ((w.alloc (.cells #[.slice A L cp] 23)).alloc (.cells #[.int .i64 0] 3)) := turn_trans (turn_alloc _ _) (turn_alloc _ _) (by omega)
  have z0 : ((w.alloc (.cells #[.slice A L cp] 23)).alloc (.cells #[.int .i64 0] 3)).heap.size = w.heap.size + 2 := by simp
  refine (callsIn_wide (n := 5)).1 ?_
  refine callsIn_of_wp_marks Tryd.func33 rfl trivial ?_ rfl
  simp only [Tryd.ntmps33, List.size_toArray, List.length_cons, List.length_nil, Nat.reduceAdd, Nat.reduceSub, Array.replicate_succ, Array.replicate_zero, List.push_toArray, List.append_toArray, List.nil_append, List.cons_append]
  refine wpIn_wide.2 ?_
  go_wp2_with fail
  go_step3
  go_wp2_with fail
  go_step3
  go_wp2_with fail
  generalize ((w.alloc (.cells #[.slice A L cp] 23)).alloc (.cells #[.int .i64 0] 3)) = W0 at *
  have HZ0 := Lib.hid z0
  have hz0 : w.heap.size + 2 ≤ W0.heap.size := by omega
  have hz1 : W0.heap.size ≤ w.heap.size + 2 := by omega
  have HB0 := Lib.hid k0.to_below
  have HBX0 := Lib.hid b0
  clear z0 k0
  have HINV : Hid (∀ W W', KeepBut (w.heap.size + 2) (w.heap.size + 1) W0 W → (KeepBut (w.heap.size + 2) (w.heap.size + 1) W W' ∨ Below W.heap.size W W') → KeepBut (w.heap.size + 2) (w.heap.size + 1) W0 W') := fun W W' h h' => by
    rcases h' with h' | h'
    · exact h.trans h'
    · exact h.trans (KeepBut.of_below (h'.mono (by have := h.size; omega)))
  have HBW : Hid (∀ W, KeepBut (w.heap.size + 2) (w.heap.size + 1) W0 W → Below w.heap.size w W) := fun W h => h.below HB0.out (by omega) (by omega)
  refine (wpIn_wide (n := 5)).1 ?_
  refine wpIn_rangeFunc_ownH rfl (by omega) (gf := 58) (lb := #[.pointer (some ⟨Bm, 0, none⟩), .pointer (some ⟨Bt, 0, none⟩)]) rfl trivial (enters_of Tryd.func58 (by kernel_rfl) rfl)
    (shardsBy_stops _ (p + q) p (lenH l) Bm Bt (codF p) (decR l p q) (.slice Am nm cm) (.slice At nt ct) W0 (KeepBut (w.heap.size + 2) (w.heap.size + 1)) (KeepBut (w.heap.size + 2) (w.heap.size + 1) W0) HDL.out (by omega) (by omega) (by omega) HDR.out (by omega)
      (fun W hW => ⟨⟨((HBW.out W hW).cell (p := ⟨Bm, 0, none⟩) HBM.out.lt).trans HBM.out.cell, ((HBW.out W hW).cell (p := ⟨Bt, 0, none⟩) HBT.out.lt).trans HBT.out.cell⟩, ⟨HOM.out.below (HBW.out W hW), HOT.out.below (HBW.out W hW)⟩, HTB.out.below (HBW.out W hW) h0, by have := (HBW.out W hW).size; omega⟩)
      (fun W W' h h' => HINV.out W W' h (.inl h')) (fun W W' h h' => HINV.out W W' h (.inr h')) (fun W h => KeepBut.of_below (h.mono (by omega))) (by omega))
    (fun h h' => h.trans h') (KeepBut.putObj (by omega)) (Below.refl _ _) (fun _ => rfl)
    (fun pre W => (∃ t, runC l pre = some t ∧ t ≤ L ∧ Boxed W (w.heap.size + 1) 3 (.int .i64 (t : Nat))) ∧ KeepBut (w.heap.size + 2) (w.heap.size + 1) W0 W)
    (fun c pre W => c = Code.exit 0 ∧ (∃ pre0 x t, pre = pre0 ++ [x] ∧ runC l pre0 = some t ∧ stp l t x = none ∧ Boxed W (w.heap.size + 1) 3 (.int .i64 (t : Nat))) ∧ KeepBut (w.heap.size + 2) (w.heap.size + 1) W0 W)
    (fun s X Y row hs hg hr => by
      obtain ⟨⟨t, e1, e2, e3⟩, hk⟩ := hs
      exact ⟨⟨t, e1, e2, boxed_own _ _ (fun _ : Unit => .int .i64 (t : Nat)) () X Y row e3 hg (fun r e => (hr r e).2)⟩, keepBut_grown hk hg (fun r e => by have := (hr r e).1; omega) (by omega)⟩)
    (fun c s X Y row hs hg hr => by
      obtain ⟨hc, ⟨pre0, x, t, e0, e1, e2, e3⟩, hk⟩ := hs
      exact ⟨hc, ⟨pre0, x, t, e0, e1, e2, boxed_own _ _ (fun _ : Unit => .int .i64 (t : Nat)) () X Y row e3 hg (fun r e => (hr r e).2)⟩, keepBut_grown hk hg (fun r e => by have := (hr r e).1; omega) (by omega)⟩)
    ⟨⟨0, rfl, Nat.zero_le _, b1⟩, KeepBut.refl _ _ _⟩
    (fun x a' W => ∃ Bx, w.heap.size + 2 ≤ Bx ∧ W.heap[Bx]? = some (.cells #[.int .i64 x.1, .string (str x.2)] 27 (0, 0)) ∧ a' = { tmps := #[.slice A L cp, .func (.func 58) #[] #[.pointer (some ⟨Bm, 0, none⟩), .pointer (some ⟨Bt, 0, none⟩)],
      .pointer (some ⟨w.heap.size, 0, none⟩), undef, .bool false, .pointer (some ⟨w.heap.size + 1, 0, none⟩), .pointer (some ⟨Bx, 0, none⟩), .func (.func 58) #[] #[.pointer (some ⟨Bm, 0, none⟩), .pointer (some ⟨Bt, 0, none⟩)], shV x,
      undef, undef, undef, undef, undef, undef, undef, undef, undef, undef, undef, undef, undef, undef, undef, undef, undef, undef, undef, undef, undef, undef, undef, undef, undef, undef, undef], defers := [] })
    (fun x a' _ X Y row hs hg hr => by
      obtain ⟨Bx, e1, e2, e3⟩ := hs
      refine ⟨Bx, e1, ?_, e3⟩
      rw [hg.block Bx (Array.getElem?_eq_some_iff.1 e2).1 (fun e => by
        obtain ⟨o, ho, hoc⟩ := (hr Bx e.symm).2
        rw [e2] at ho
        cases ho
        simp [Obj.isCells] at hoc)]
      exact e2)
    ?assign ?body ?done ?stop
  case assign =>
    rintro ll pre x W K ⟨⟨t, e1, e2, e3⟩, hk⟩ hK
    simp only [shV]
    gi_wp2_with fail
    exact hK _ _ ((KeepsOthers.alloc _ _).from _) (KeepBut.of_below ((Below.refl _ W).alloc (by have := hk.size; omega) _)) ⟨⟨t, e1, e2, e3.alloc _⟩, hk.trans (KeepBut.of_below ((Below.refl _ W).alloc (by have := hk.size; omega) _))⟩ ⟨W.heap.size, by have := hk.size; omega, World.alloc_heap_new W _, rfl⟩
  case body =>
    rintro ll pre x a' W hl ⟨rr, hr⟩ ⟨⟨t, e1, e2, e3⟩, hk⟩ ⟨Bx, hBx, hX, rfl⟩ hlt
    obtain ⟨xn, sx⟩ := x
    have cX0 := cell_of_heap' (o := 0) (v := .int .i64 xn) hX rfl
    have cX1 := cell_of_heap' (o := 1) (v := .string (str sx)) hX rfl
    have cN := e3.cell
    have fN := e3.frozen
    have cL : W.cell? ⟨w.heap.size, 0, none⟩ = some (.slice A L cp) := (hk.cell (by omega) (by omega)).trans HBX0.out.cell
    have HK := Lib.hid hk
    have HE1 := Lib.hid e1
    have HE3 := Lib.hid e3
    simp only [shV]
    clear hX hr e1 hk e3
    by_cases htL : t = L
    · have hb : ((t : Int) == (L : Int)) = true := by simp [htL]
      have HT := Lib.hid htL
      clear htL
      gi_wp2_with fail
      exact ⟨(KeepsOthers.refl _).from _, rfl, ⟨pre, (xn, sx), t, rfl, HE1.out, stp_full _ (by rw [HL.out]; exact HT.out), HE3.out⟩, HK.out⟩
    · have hb : ((t : Int) == (L : Int)) = false := by simpa using fun e => htL (by omega)
      have htl : t < L := by omega
      obtain ⟨b, off, rfl, hbl, hcell⟩ := HX.out (by omega)
      obtain ⟨⟨yn, sy⟩, hks⟩ := at_lt HL.out htl
      have hBW := HBW.out W HK.out
      have cY0 := (hBW.cell (p := ⟨b, off + t * 2, none⟩) hbl).trans (hcell t _ hks).1
      have cY1 := (hBW.cell (p := ⟨b, off + t * 2 + 1, none⟩) hbl).trans (hcell t _ hks).2
      simp only at cY0 cY1
      have ht0 : (0 : Int) ≤ (t : Int) := by omega
      have ht1 : (t : Int) < (L : Int) := by omega
      have hgd : ∀ (op : BinOp) (a b : Operand) (W : World), (eqGuard op 27 a b (.agg #[.int .i64 xn, .string (str sx)]) (.agg #[.int .i64 yn, .string (str sy)])).run Tryd.prog W = .ok () W := fun op a b W => (GuardAt.agg (P := Tryd.prog) (T := 27) (α := Sh) (fun x => #[.int .i64 x.1, .string (str x.2)]) (by kernel_rfl)) op a b (xn, sx) (yn, sy) W
      have heq0 := fun W => eqlShard xn yn sx sy W
      have HKS := Lib.hid hks
      clear hcell hks htL
      by_cases he : (xn, sx) = (yn, sy)
      · have heq : ∀ W, (binOp .eql 27 (.agg #[.int .i64 xn, .string (str sx)]) (.agg #[.int .i64 yn, .string (str sy)])).run Tryd.prog W = .ok (.bool true) W := fun W => by rw [heq0 W]; simp [he]
        have HE := Lib.hid he
        clear he heq0
        gi_wp2_with fail
        refine Code.wpIn_mono (Q := fun e a' W' => e = Exit.normal ∧ a' = ({ tmps := #[.slice (some ⟨b, off, none⟩) L cp, .func (.func 58) #[] #[.pointer (some ⟨Bm, 0, none⟩), .pointer (some ⟨Bt, 0, none⟩)], .pointer (some ⟨w.heap.size, 0, none⟩), undef, .bool false, .pointer (some ⟨w.heap.size + 1, 0, none⟩), .pointer (some ⟨Bx, 0, none⟩), .func (.func 58) #[] #[.pointer (some ⟨Bm, 0, none⟩), .pointer (some ⟨Bt, 0, none⟩)], .agg #[.int .i64 xn, .string (str sx)], .bool false, .int .i64 t, .slice (some ⟨b, off, none⟩) L cp, .int .i64 L, .bool false, .bool true, .agg #[.int .i64 xn, .string (str sx)], .slice (some ⟨b, off, none⟩) L cp, .int .i64 t, .pointer (some ⟨b, off + t * 2, none⟩), .agg #[.int .i64 yn, .string (str sy)], .bool true, undef, undef, undef, undef, undef, undef, undef, undef, undef, undef, undef, undef, undef, undef, undef], defers := [] } : Act) ∧ W' = W.drew) ?hq ?hr
        case hr =>
          gi_region_with_o (fail)
          all_goals exact ⟨rfl, rfl, rfl⟩
        rintro e a' W' ⟨rfl, rfl, rfl⟩
        simp only [Exit.then]
        gi_wp2_with fail
        refine ⟨((KeepsOthers.drew _).trans (KeepsOthers.setCell _ _ _)).from _, (keepBut_drew _ _ _).trans (keepBut_set _ _ _ _), ⟨t + 1, ?_, by omega, ?_⟩, (HK.out.trans (keepBut_drew _ _ _)).trans (keepBut_set _ _ _ _)⟩
        · rw [runC_snoc, HE1.out, Option.bind_some, HE.out]; exact stp_hit HKS.out
        · have hh : Boxed W.drew (w.heap.size + 1) 3 (.int .i64 (t : Nat)) := HE3.out
          exact hh.set _
      · have heq : ∀ W, (binOp .eql 27 (.agg #[.int .i64 xn, .string (str sx)]) (.agg #[.int .i64 yn, .string (str sy)])).run Tryd.prog W = .ok (.bool false) W := fun W => by rw [heq0 W]; simp only [he, decide_false]
        have HE := Lib.hid he
        clear he heq0
        by_cases hn : xn = yn
        · have hbn : (xn == yn) = true := by simpa using hn
          have HN := Lib.hid hn
          clear hn
          gi_wp2_with fail
          refine Code.wpIn_mono (Q := fun e a' W' => e = Exit.normal ∧ a' = ({ tmps := #[.slice (some ⟨b, off, none⟩) L cp, .func (.func 58) #[] #[.pointer (some ⟨Bm, 0, none⟩), .pointer (some ⟨Bt, 0, none⟩)], .pointer (some ⟨w.heap.size, 0, none⟩), undef, .bool false, .pointer (some ⟨w.heap.size + 1, 0, none⟩), .pointer (some ⟨Bx, 0, none⟩), .func (.func 58) #[] #[.pointer (some ⟨Bm, 0, none⟩), .pointer (some ⟨Bt, 0, none⟩)], .agg #[.int .i64 xn, .string (str sx)], .bool false, .int .i64 t, .slice (some ⟨b, off, none⟩) L cp, .int .i64 L, .bool false, .bool false, .agg #[.int .i64 xn, .string (str sx)], .slice (some ⟨b, off, none⟩) L cp, .int .i64 t, .pointer (some ⟨b, off + t * 2, none⟩), .agg #[.int .i64 yn, .string (str sy)], .bool false, undef, undef, undef, undef, undef, undef, undef, undef, undef, undef, undef, undef, undef, undef, undef], defers := [] } : Act) ∧ W' = W.drew) ?hq2 ?hr2
          case hr2 =>
            gi_region_with_o (fail)
            all_goals exact ⟨rfl, rfl, rfl⟩
          rintro e a' W' ⟨rfl, rfl, rfl⟩
          simp only [Exit.then]
          gi_wp2_with fail
          gi_region_with_o (fail)
          all_goals
              gi_wp2_with fail
              refine ⟨((KeepsOthers.drew _).trans (KeepsOthers.drew _)).from _, rfl, ⟨pre, (xn, sx), t, rfl, HE1.out, stp_bad HKS.out HE.out HN.out, HE3.out⟩, (HK.out.trans (keepBut_drew _ _ _)).trans (keepBut_drew _ _ _)⟩
        · have hbn : (xn == yn) = false := by simpa using hn
          have HN := Lib.hid hn
          clear hn
          gi_wp2_with fail
          refine Code.wpIn_mono (Q := fun e a' W' => e = Exit.normal ∧ a' = ({ tmps := #[.slice (some ⟨b, off, none⟩) L cp, .func (.func 58) #[] #[.pointer (some ⟨Bm, 0, none⟩), .pointer (some ⟨Bt, 0, none⟩)], .pointer (some ⟨w.heap.size, 0, none⟩), undef, .bool false, .pointer (some ⟨w.heap.size + 1, 0, none⟩), .pointer (some ⟨Bx, 0, none⟩), .func (.func 58) #[] #[.pointer (some ⟨Bm, 0, none⟩), .pointer (some ⟨Bt, 0, none⟩)], .agg #[.int .i64 xn, .string (str sx)], .bool false, .int .i64 t, .slice (some ⟨b, off, none⟩) L cp, .int .i64 L, .bool false, .bool false, .agg #[.int .i64 xn, .string (str sx)], .slice (some ⟨b, off, none⟩) L cp, .int .i64 t, .pointer (some ⟨b, off + t * 2, none⟩), .agg #[.int .i64 yn, .string (str sy)], .bool false, undef, undef, undef, undef, undef, undef, undef, undef, undef, undef, undef, undef, undef, undef, undef], defers := [] } : Act) ∧ W' = W.drew) ?hq3 ?hr3
          case hr3 =>
            gi_region_with_o (fail)
            all_goals exact ⟨rfl, rfl, rfl⟩
          rintro e a' W' ⟨rfl, rfl, rfl⟩
          simp only [Exit.then]
          gi_wp2_with fail
          gi_region_with_o (fail)
          all_goals
              gi_wp2_with fail
              refine ⟨((KeepsOthers.drew _).trans (KeepsOthers.drew _)).from _, (keepBut_drew _ _ _).trans (keepBut_drew _ _ _), ⟨t, ?_, by omega, HE3.out⟩, (HK.out.trans (keepBut_drew _ _ _)).trans (keepBut_drew _ _ _)⟩
              rw [runC_snoc, HE1.out, Option.bind_some]; exact stp_on HKS.out HE.out HN.out
  case done =>
    rintro D ys W hD rfl ⟨⟨t, e1, e2, e3⟩, hk⟩ hK
    rw [HSF.out] at e1
    have hr := runC_done HSO.out e1
    have cN := e3.cell
    have cL : W.cell? ⟨w.heap.size, 0, none⟩ = some (.slice A L cp) := (hk.cell (by omega) (by omega)).trans HBX0.out.cell
    have hBw := HBW.out W hk
    have HRES : Hid (((t : Int) == (L : Int)) = chkR l p q) := by
      show _ = _
      rw [HCK.out, ← hr, HL.out]
      by_cases e : t = L <;> simp [e]
      omega
    have HBE := Lib.hid hBw
    clear hr e1 e3 hk hBw
    go_wp2_with fail
    rw [Exit.noGoto_ret]
    refine ⟨by simp, .inl ⟨_, _, rfl, run_takeDeferred hK, ?_⟩⟩
    have hBe := HBE.out.trans (belowK_b (w := w) (Nat.le_refl _) W D _ (.deferred none) (by omega) hK rfl rfl)
    refine ⟨_, results_tmp rfl _ _ _, ?_, TurnIn.of_below hBe⟩
    rw [← HRES.out]; rfl
  case stop =>
    rintro D c pre W hD hSp ⟨rfl, ⟨pre0, x, t, rfl, e1, e2, e3⟩, hk⟩ hK
    rw [HSF.out] at hSp
    obtain ⟨q1, q2⟩ := prefix_mk hSp
    rw [q1] at e1
    rw [q2] at e2
    have hr := runC_stop HSO.out e1 e2
    have cN := e3.cell
    have cL : W.cell? ⟨w.heap.size, 0, none⟩ = some (.slice A L cp) := (hk.cell (by omega) (by omega)).trans HBX0.out.cell
    have hBw := HBW.out W hk
    have HRES : Hid (((t : Int) == (L : Int)) = chkR l p q) := by
      show _ = _
      rw [HCK.out, ← hr, HL.out]
      by_cases e : t = L <;> simp [e]
      omega
    have HBE := Lib.hid hBw
    clear hr e1 e2 e3 hk hBw q1 q2 hSp
    gi_wp2_with fail
    go_wp2_with fail
    rw [Exit.noGoto_ret]
    refine ⟨by simp, .inl ⟨_, _, rfl, run_takeDeferred hK, ?_⟩⟩
    have hBe := HBE.out.trans (belowK_b (w := w) (Nat.le_refl _) W D _ (.deferred none) (by omega) hK rfl rfl)
    refine ⟨_, results_tmp rfl _ _ _, ?_, TurnIn.of_below hBe⟩
    rw [← HRES.out]; rfl

set_option maxRecDepth 100000 in
set_option maxHeartbeats 2000000 in
theorem checkShards_own (v : Value) (l : List Sh) (k m : Int) (w : World) (hv : SeenH w v l) (hln : l.length ≤ 1048576) (ht : Tab w) (h0 : 0 < w.heap.size) :
    Calls Tryd.prog 8 #[v, .int .i64 k, .int .i64 m] w (RetBools w (chkR l k m) (decOk l k m)) := by
  have HV := Lib.hid hv
  have HTB := Lib.hid ht
  obtain ⟨A, cp, rfl⟩ := hv.len
  clear hv ht
  by_cases hd : decOk l k m = true
  · have HD := Lib.hid hd
    have hbs := shapeOk_b (decOk_shape hd)
    obtain ⟨p, rfl⟩ := Int.eq_ofNat_of_zero_le (show 0 ≤ k by omega)
    obtain ⟨q, rfl⟩ := Int.eq_ofNat_of_zero_le (show 0 ≤ m by omega)
    clear hd
    go_enter Tryd.func8, Tryd.ntmps8
    go_wp2_with fail
    refine (remade_yes _ l p q _ HV.out hln HTB.out h0 HD.out).mono ?_
    rintro e w1 ⟨s, rfl, Bm, Bt, Am, nm, cm, At, nt, ct, vsm, rfl, bM, bT, hBm, hBt, oM, oT, k1⟩
    have hs1 := k1.size
    have HM := Lib.hid oM.seen
    have HT := Lib.hid oT.seen
    have HBM := Lib.hid bM
    have HBT := Lib.hid bT
    clear oM oT bM bT
    go_wp2_with fail
    refine (allAmong_own _ l p q Bm Bt Am At nm cm nt ct _ (HV.out.below k1.to_below) HD.out HBM.out HBT.out HM.out HT.out (HTB.out.below k1.to_below h0) (by omega)).mono ?_
    rintro e w2 ⟨rfl, k2⟩
    go_wp2_with fail
    go_ret2
    exact ⟨by rw [HD.out]; rfl, turn_trans k1 k2 (by omega)⟩
  · have hd' : decOk l k m = false := by simpa using hd
    have HD := Lib.hid hd'
    have HF := Lib.hid (chkR_no hd')
    clear hd hd'
    go_enter Tryd.func8, Tryd.ntmps8
    go_wp2_with fail
    refine (remade_no _ l k m _ HV.out hln HTB.out h0 HD.out).mono ?_
    rintro e w1 ⟨rfl, k1⟩
    go_wp2_with fail
    go_ret2
    exact ⟨by rw [HF.out, HD.out]; rfl, k1⟩

end Go.Proofs.YtlkoafnlklhaeabDoor

/- A law's row out of its walk, for any program, any parameters and any listed variables: where the call returns true and leaves all old memory as it was, every argument and every listed variable reads as before. -/
namespace G294
open Go Go.ChangeShapes Go.WideShapes Go.ChangeAt Go.RowKit

section
variable {H : Type} {enc : TypeId × Value → H} {P : Program}

def readableAll (P : Program) (ts : List TypeId) : Bool := ts.all fun t => P.readableRec t && decide (t < P.types.size)

theorem trodAll_below (hl : laidOutB P = true) {W W' : World} (hb : Below W.heap.size W W') (sp : Nat → Bool) :
    ∀ {ts : List TypeId} {vs : List Value} {ds : List (DataW H)} {ps : List MemPlace}, readableAll P ts = true → DataW.TrodAll enc P W 0 (fun _ => true) true ts vs ds ps →
      (∀ x ∈ ps, x.block < W.heap.size) → (∀ x ∈ ps, sp x.block = true) → DataW.TrodAll enc P W' 0 sp true ts vs ds ps
  | [], _, _, _, _, h, _, _ => by
    obtain ⟨rfl, rfl, rfl⟩ := trodAll_nil h
    exact rfl
  | t :: ts, _, _, _, hr, h, hlt, hs => by
    obtain ⟨v, vs1, d, ds1, a, b, rfl, rfl, rfl, h1, h2⟩ := trodAll_cons h
    simp only [readableAll, List.all_cons, Bool.and_eq_true, decide_eq_true_eq] at hr
    exact ⟨a, b, WideElems.Trod_stays hl hr.1.1 hr.1.2 h1 (fun x hx => hb.same (hlt x (List.mem_append_left _ hx))) (fun x hx => hs x (List.mem_append_left _ hx)),
      trodAll_below hl hb sp hr.2 h2 (fun x hx => hlt x (List.mem_append_right _ hx)) (fun x hx => hs x (List.mem_append_right _ hx)), rfl⟩

def readableVars (P : Program) (ns : List String) : Bool := ns.all fun n => match P.globalNamed n with
  | some g => match (P.globals[g]?).map (·.type) with
    | some t => P.readableRec t && decide (t < P.types.size)
    | none => false
  | none => false

theorem trodVars_below (hl : laidOutB P = true) {W W' : World} (hb : Below W.heap.size W W') (sp : Nat → Bool) :
    ∀ {ns : List String} {ds : List (DataW H)} {ps : List MemPlace}, readableVars P ns = true → DataW.TrodVars enc P W (fun _ => true) ns ds ps →
      (∀ x ∈ ps, x.block < W.heap.size) → (∀ x ∈ ps, sp x.block = true) → DataW.TrodVars enc P W' sp ns ds ps
  | [], ds, ps, _, h, _, _ => by
    obtain ⟨rfl, rfl⟩ := trodVars_none h
    exact rfl
  | n :: ns, [], ps, hr, h, hlt, hs => h.elim
  | n :: ns, d :: ds, ps, hr, h, hlt, hs => by
    obtain ⟨g, t, cs, fuel, p, q, hg, ht, hv, hd, hrest, rfl⟩ := h
    simp only [readableVars, List.all_cons, Bool.and_eq_true, hg, ht, decide_eq_true_eq] at hr
    have hgl : g < W.heap.size := by
      unfold World.var? at hv
      simp only [hg, Option.bind_some] at hv
      rcases Nat.lt_or_ge g W.heap.size with h | h
      · exact h
      · rw [Array.getElem?_eq_none h] at hv; cases hv
    refine ⟨g, t, cs, fuel, p, q, hg, ht, var?_below hb hg hgl hv, ?_, trodVars_below hl hb sp hr.2 hrest (fun x hx => hlt x (List.mem_append_right _ hx)) (fun x hx => hs x (List.mem_append_right _ hx)), rfl⟩
    exact DataW.trod_stays (kids_book hl hr.1.1) (book_sized hr.1.1) (fun h => by cases h) ⟨hr.1.2, book_self t⟩ hd
      (fun x hx => hb.same (hlt x (List.mem_append_left _ (List.mem_append_right _ hx)))) (fun x hx => hs x (List.mem_append_left _ (List.mem_append_right _ hx)))

theorem trodAll_length {w : World} {base : Nat} {sp : Nat → Bool} {held : Bool} : ∀ {ts : List TypeId} {vs : List Value} {ds : List (DataW H)} {ps : List MemPlace},
    DataW.TrodAll enc P w base sp held ts vs ds ps → vs.length = ts.length ∧ ds.length = ts.length
  | [], _, _, _, h => by
    obtain ⟨rfl, rfl, rfl⟩ := trodAll_nil h
    exact ⟨rfl, rfl⟩
  | t :: ts, _, _, _, h => by
    obtain ⟨v, vs1, d, ds1, a, b, rfl, rfl, rfl, h1, h2⟩ := trodAll_cons h
    have := trodAll_length h2
    simp [this.1, this.2]
theorem trodVars_length {w : World} {sp : Nat → Bool} : ∀ {ns : List String} {ds : List (DataW H)} {ps : List MemPlace}, DataW.TrodVars enc P w sp ns ds ps → ds.length = ns.length
  | [], ds, ps, h => by
    obtain ⟨rfl, rfl⟩ := trodVars_none h
    rfl
  | n :: ns, [], ps, h => h.elim
  | n :: ns, d :: ds, ps, h => by
    obtain ⟨g, t, cs, fuel, p, q, hg, ht, hv, hd, hrest, rfl⟩ := h
    simp [trodVars_length hrest]

/-- the row's last step of a law: it returned true, and below the heap's old size nothing has turned -/
theorem post_law {f : Func} {s : ChangeSpec} {apart fresh handsOn again : Bool} {W W' : World} {args : Array Value} {ds gs : List (DataW H)} {before : List MemPlace} {tb : TypeId}
    (hl : laidOutB P = true) (hr : readableAll P f.params.toList = true) (hrv : readableVars P s.vars = true) (hres : f.resultTypes = #[tb]) (htb : P.underlying tb = some .bool)
    (hfn : ∀ ds gs : List (DataW H), ds.length = f.params.toList.length → gs.length = s.vars.length → s.fn H (ds ++ gs) = { results := [.lit (.bool true)], args := ds, vars := gs })
    (hW : DataW.Whole enc P f.params.toList s.vars apart W args.toList ds gs before) (hb : Below W.heap.size W W') :
    s.post enc P f apart fresh handsOn again W args (.bool true) W' := by
  have hW0 := hW
  have hlt : ∀ p ∈ before, p.block < W.heap.size := fun p hp => hW.lt p hp
  obtain ⟨pa, pv, hA, hV, rfl, hz, hn⟩ := hW
  have hf := hfn ds gs (trodAll_length hA).2 (trodVars_length hV)
  have hold : ∀ p ∈ pa ++ pv, (fun b => decide (b < W.heap.size)) p.block = true := fun p hp => by simpa using hlt p hp
  have hargs : ∀ sp : Nat → Bool, (∀ p ∈ pa ++ pv, sp p.block = true) → DataW.TrodAll enc P W' 0 sp true f.params.toList args.toList ds pa := fun sp hs =>
    trodAll_below hl hb sp hr hA (fun x hx => hlt x (List.mem_append_left _ hx)) (fun x hx => hs x (List.mem_append_left _ hx))
  have hvars : ∀ sp : Nat → Bool, (∀ p ∈ pa ++ pv, sp p.block = true) → DataW.TrodVars enc P W' sp s.vars gs pv := fun sp hs =>
    trodVars_below hl hb sp hrv hV (fun x hx => hlt x (List.mem_append_right _ hx)) (fun x hx => hs x (List.mem_append_right _ hx))
  have hrs : ∀ (b : Nat) (sp : Nat → Bool) (hd : Bool), DataW.TrodAll enc P W' b sp hd f.resultTypes.toList ((Value.bool true).resultList f.resultTypes.size) [.lit (.bool true)] [] := fun b sp hd => by
    rw [hres]
    exact trodAll_cons_mk (shut_bool htb true) trodAll_mk0
  refine ⟨ds, gs, pa ++ pv, [], pa, pv, hW0, by rw [hf]; exact hrs _ _ _, by rw [hf]; exact hargs _ hold, by rw [hf]; exact hvars _ hold, World.keptBut_mono (fun p hp => ⟨hp, ?_⟩) (hb.frame (· ∈ pa ++ pv)), fun _ => ?_⟩
  · exact Or.inr (List.mem_append.1 hp)
  · refine ⟨ok_one hres rfl (okWide_bool_mk htb true), _, _, ([] ++ pa) ++ pv, ⟨[] ++ pa, pv, trodAll_append (hargs _ (fun _ _ => rfl)) (hrs _ _ _), hvars _ (fun _ _ => rfl), rfl, ?_, ?_⟩, ?_⟩
    · intro b off hp
      have hin : MemPlace.cell b off ∈ pa ++ pv := by simpa using hp
      rw [hb.frozen (p := ⟨b, off, none⟩) (hlt _ hin)]
      exact hz b off hin
    · intro ha
      simpa using hn ha
    · intro p hp _
      simpa using hp
end

/-- the walk that a law's row asks: at every world and every reading of the arguments and the listed variables the call returns true and leaves old memory as it was -/
def LawWalk (P : Program) (f : FuncId) (fn : Func) (vars : List String) (apart : Bool) (X : World → Prop) : Prop :=
  ∀ (H : Type) (enc : TypeId × Value → H) (W : World) (base : Nat) (args : Array Value) (ds gs : List (DataW H)) (before : List MemPlace),
    (∀ (j : Nat) t v, fn.params[j]? = some t → args[j]? = some v → Value.okWide P W .any base t v) →
    DataW.Whole enc P fn.params.toList vars apart W args.toList ds gs before → X W →
    Calls P f args W fun e W' => e = .returned (.bool true) ∧ Below W.heap.size W W'


section
variable {P : Program} {W : World}
theorem laidVars_at : ∀ {l : List (String × DataW Unit)} {ps : List MemPlace}, DataW.LaidVars P W l ps → ∀ {i : Nat} {n : String} {d : DataW Unit}, l[i]? = some (n, d) →
    ∃ g t cs fuel p, P.globalNamed n = some g ∧ (P.globals[g]?).map (·.type) = some t ∧ W.var? P n = some cs ∧ DataW.trod (fun _ => ()) P W 0 (fun _ => true) false fuel t cs.toList = some (d, p)
  | [], _, _, i, n, d, hi => by simp at hi
  | (m, x) :: l, ps, h, i, n, d, hi => by
    obtain ⟨g, t, cs, fuel, p, q, h1, h2, h3, h4, h5, _⟩ := h
    cases i with
    | zero =>
      simp only [List.getElem?_cons_zero, Option.some.injEq, Prod.mk.injEq] at hi
      obtain ⟨rfl, rfl⟩ := hi
      exact ⟨g, t, cs, fuel, p, h1, h2, h3, h4⟩
    | succ i => exact laidVars_at h5 (by simpa using hi)

/-- a listed table of integers: its cells, and that it lies below the heap's end -/
theorem tab_of_laid {laid : List (String × DataW Unit)} (hpl : (laid.all fun x => x.2.handleName?.isNone) = true) (h : laidMetH P laid W) (i : Nat) {name : String} {k : IntKind} {zs : List Int} {g : Nat} {t e : TypeId} {n : Nat}
    (hi : laid[i]? = some (name, Lib.tabData k zs)) (hg : P.globalNamed name = some g) (hty : (P.globals[g]?).map (·.type) = some t) (ht : P.underlying t = some (.array n e)) (he : P.underlying e = some (.int k))
    (hce : P.cellsOf e = 1) (hct : P.cellsOf t = n) : (∀ j, j < zs.length → W.cell? ⟨g, j, none⟩ = some (.int k (zs.getD j 0))) ∧ g < W.heap.size := by
  rw [MakeChecks.laidMetH_plain _ _ _ hpl] at h
  obtain ⟨ps, hv, _⟩ := h
  obtain ⟨g', t', cs, fuel, p, hg', ht', hvar, hd⟩ := laidVars_at hv hi
  obtain rfl := Option.some.inj (hg.symm.trans hg')
  obtain rfl := Option.some.inj (hty.symm.trans ht')
  have hT : Lib.TabIs P W name k zs := by
    unfold Lib.TabIs
    rw [hvar, ← Lib.cells_of_tab ht he hce hct hd]
  refine ⟨fun j hj => hT.cell hg j hj, ?_⟩
  unfold World.var? at hvar
  simp only [hg, Option.bind_some] at hvar
  rcases Nat.lt_or_ge g W.heap.size with h | h
  · exact h
  · rw [Array.getElem?_eq_none h] at hvar; cases hvar
end

end G294

/- The table of remainders, out of what a row lays. -/
namespace Go.Proofs.YtlkoafnlklhaeabDoor
open Go.ChangeShapes Go.WideShapes Go.ChangeAt Go.RowKit

theorem byte_of_wf {x : Int} (h : (Lit.int .u8 x).wf = true) : ∃ n : Nat, n < 256 ∧ x = n := by
  have hb := bounds_u8 h
  exact ⟨x.toNat, by omega, by omega⟩
theorem tab_of {laid : List (String × DataW Unit)} {W : World} (hpl : (laid.all fun x => x.2.handleName?.isNone) = true) (h : laidMetH Tryd.prog laid W) (i : Nat) {name : String}
    (hi : laid[i]? = some (name, Lib.tabData .u8 [27, 54, 108, 216, 171, 77, 154])) (hg : Tryd.prog.globalNamed name = some 0) : Tab W ∧ 0 < W.heap.size := by
  obtain ⟨hc, hs⟩ := G294.tab_of_laid hpl h i (g := 0) (t := 131) (e := 5) (n := 7) hi hg (by kernel_rfl) Tryd.underlying131 Tryd.underlying5 (by kernel_rfl) (by kernel_rfl)
  refine ⟨fun k hk => ?_, hs⟩
  have := hc k (by simpa using hk)
  rw [this]
  have : k = 0 ∨ k = 1 ∨ k = 2 ∨ k = 3 ∨ k = 4 ∨ k = 5 ∨ k = 6 := by omega
  rcases this with rfl | rfl | rfl | rfl | rfl | rfl | rfl <;> rfl

end Go.Proofs.YtlkoafnlklhaeabDoor

/- From the readings of a law's arguments to what its walk asks: bytes, ints, slices of bytes. -/
namespace G294
open Go Go.ChangeShapes Go.WideShapes Go.ChangeAt Go.RowKit

theorem byte_of_wf {x : Int} (h : (Lit.int .u8 x).wf = true) : ∃ n : UInt8, x = (n.toNat : Int) := by
  have hb := bounds_u8 h
  refine ⟨UInt8.ofNat x.toNat, ?_⟩
  rw [UInt8.toNat_ofNat']
  omega

theorem bytes_of_wf : ∀ {zs : List Int}, (∀ z ∈ zs, (Lit.int .u8 z).wf = true) → ∃ l : List UInt8, zs.map (fun z => Value.int .u8 z) = bys l ∧ l.length = zs.length
  | [], _ => ⟨[], rfl, rfl⟩
  | z :: zs, h => by
    obtain ⟨l, hl, hn⟩ := bytes_of_wf (zs := zs) (fun y hy => h y (List.mem_cons_of_mem _ hy))
    obtain ⟨x, rfl⟩ := byte_of_wf (h z (List.mem_cons_self))
    exact ⟨x :: l, by simp [bys] at hl ⊢; exact hl, by simp [hn]⟩

section
variable {H : Type} {enc : TypeId × Value → H} {P : Program} {W : World} {base : Nat} {t e : TypeId} {v : Value} {d : DataW H} {p : List MemPlace}
/-- a slice of bytes that came in -/
theorem seen_bytes (ht : P.underlying t = some (.slice e)) (he : P.underlying e = some (.int .u8)) (hc : P.cellsOf e = 1)
    (hv : Value.okWide P W .any base t v) (h : DataW.Trod enc P W 0 (fun _ => true) true t v d p) (hlt : ∀ x ∈ p, x.block < W.heap.size) : ∃ l : List UInt8, Seen W v (bys l) := by
  obtain ⟨a0, len, cap, rfl⟩ := okWide_slice ht hv
  obtain ⟨fuel, hf⟩ := h
  rcases open_ints ht he hc hf with ⟨hcs, hx⟩ | ⟨a, len', cap', zs, hcs, _, hl, hm, hz, hx, hcell, hwz⟩
  · have e1 : a0 = none ∧ len = 0 ∧ cap = 0 := by simpa [Value.cells] using hcs
    obtain ⟨rfl, rfl, rfl⟩ := e1
    exact ⟨[], Seen.nil W⟩
  · have e1 : a0 = some a ∧ len = len' ∧ cap = cap' := by simpa [Value.cells] using hcs
    obtain ⟨rfl, rfl, rfl⟩ := e1
    have hz' : zs.length = cap := by simpa using hz
    obtain ⟨l, hbl, hll⟩ := bytes_of_wf (zs := zs.take len) (fun y hy => hwz y (List.mem_of_mem_take hy))
    have hlen : l.length = len := by rw [hll, List.length_take]; omega
    refine ⟨l, some a, cap, by simp [hlen], by simp [hlen, hl], hm, fun hn => ?_⟩
    rw [bys_length, hlen] at hn
    obtain ⟨b, off, rfl, hc'⟩ := ints_at hcell (by omega)
    have hpl : MemPlace.cell b off ∈ p := by
      have : p = MemPlace.row ⟨b, off, none⟩ zs.length := by simpa using congrArg Prod.snd hx
      rw [this, MemPlace.row]
      exact List.mem_map.2 ⟨0, by simp; omega, rfl⟩
    refine ⟨b, off, rfl, hlt _ hpl, fun i u hu => ?_⟩
    rw [← hbl] at hu
    simp only [List.getElem?_map, List.getElem?_take] at hu
    split at hu
    · rename_i hi
      rw [hc' i (by omega)]
      rw [List.getElem?_eq_getElem (by omega)] at hu
      simp only [Option.map_some, Option.some.injEq] at hu
      rw [← hu]
      simp [List.getD, show i < zs.length by omega]
    · simp at hu
end
end G294

/- The laws' helpers on matrices: a copy, equality, marks, marks held, sizes. -/
namespace G294
open Go Go.RowKit
/-- a mark of rows -/
def RetMarkM (E EE : TypeId) (w : World) (lo hi : Nat) (v : Value) (vs : List Value) (k : Nat) (L : Mat) (e : Ending) (w' : World) : Prop :=
  e = .returned (.int .i64 ((k + sizM L : Nat) : Int)) ∧ OwnM E EE w' lo hi v (marksM k L) vs ∧ TurnIn lo hi w w'
def szR (left : Nat) (n : Nat) : Int := if n ≤ left then (left : Int) - n else -1
theorem getD_mark (L : Mat) (k i : Nat) (hi : i < L.length) : ((marksM k L).take i ++ L.drop i).getD i [] = L.getD i [] := by
  have ht : ((marksM k L).take i).length = i := by rw [List.length_take, marksM_length]; omega
  simp only [List.getD]
  rw [List.getElem?_append_right (by omega), ht, Nat.sub_self, List.getElem?_drop, Nat.add_zero]
theorem set_mark (L : Mat) (k i : Nat) (hi : i < L.length) : ((marksM k L).take i ++ L.drop i).set i (marks (k + sizM (L.take i)) (L.getD i []).length) = (marksM k L).take (i + 1) ++ L.drop (i + 1) := by
  refine take_set_over _ _ i _ ?_ (marksM_length L k)
  have := marksM_getD L k i hi
  rw [← this]
  have hl : i < (marksM k L).length := by rw [marksM_length]; exact hi
  simp [List.getD, hl]
theorem set_copy (L : Mat) (i n : Nat) (hi : i < L.length) (hn : n = L.length) : (L.take i ++ List.replicate (n - i) []).set i (L.getD i []) = L.take (i + 1) ++ List.replicate (n - (i + 1)) [] := by
  have e : List.replicate (n - i) ([] : List UInt8) = [] :: List.replicate (n - (i + 1)) [] := by
    rw [← List.replicate_succ]; congr 1; omega
  have ht : (L.take i).length = i := by rw [List.length_take]; omega
  have e3 : L.getD i [] = L[i] := by simp [List.getD, hi]
  rw [e, set_mid _ _ _ _ _ ht, e3, List.take_succ_eq_append_getElem hi, List.append_assoc]
  rfl
end G294
namespace Go.Proofs.YtlkoafnlklhaeabDoor
open Go.RowKit G294

end Go.Proofs.YtlkoafnlklhaeabDoor
