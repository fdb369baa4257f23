/- Joined texts: NewGrid, Conv, Turned, Good, MatI, Arr1, Arr2. -/
import Derived.Test.YtblfobbeojdihaaGreatDoorProg
import Derived.Deep.QuietTactic
import Derived.BigQuiet
import Derived.Deep.RegionHeld3
import Derived.Shelf.Abstract
import Derived.Test.YtblfobbeojdihaaGreatDoorBd03
import Derived.Test.YtblfobbeojdihaaGreatDoorBd02
import Derived.StillTailTactics
set_option linter.unusedSimpArgs false
set_option linter.unusedVariables false
/- newGrid: rows of a new grid, entry by entry, by whatever function value. -/
namespace G294
open Go Go.RowKit
/-- the function value g with what it captured hands back F i j at i, j; it may draw; it turns and lays nothing -/
def GivesAt (P : Program) (g : Nat) (lb : Array Value) (r c : Nat) (F : Ents) (w : World) : Prop :=
  ∀ (W : World) (i j : Nat), Below w.heap.size w W → i < r → j < c → Calls P g (#[.int .i64 i, .int .i64 j] ++ lb) W fun e w' => e = .returned (.int .u8 ((F i j).toNat : Int)) ∧ ∃ q, w' = W.drewN q
theorem GivesAt.later {P : Program} {g : Nat} {lb : Array Value} {r c : Nat} {F : Ents} {w W : World} (h : GivesAt P g lb r c F w) (hb : Below w.heap.size w W) : GivesAt P g lb r c F W :=
  fun W' i j hb' hi hj => h W' i j (hb.trans (hb'.mono hb.size)) hi hj
theorem getD_rep (n i : Nat) : (List.replicate n ([] : List UInt8)).getD i [] = [] := by
  simp only [List.getD, List.getElem?_replicate]; split <;> rfl
theorem own_blank {E EE : TypeId} {w w1 : World} {r c : Nat} {F : Ents} {v : Value} (h : w1.ownsRow w.heap.size EE 1 v r (List.replicate r (.slice none 0 0))) :
    OwnM E EE w1 w.heap.size w1.heap.size v (mkM 0 c F ++ List.replicate (r - 0) []) (List.replicate r (.slice none 0 0)) := by
  refine ⟨by simpa using h, Nat.le_refl _, fun g e => (h.lt g e).2, ?_, ?_⟩
  · intro i u hu
    have : u = .slice none 0 0 := by
      rw [List.getElem?_replicate] at hu; split at hu <;> simp_all
    subst this
    have e : (mkM 0 c F ++ List.replicate (r - 0) []).getD i [] = [] := by
      have e0 : mkM 0 c F = [] := rfl
      rw [e0, List.nil_append]; exact getD_rep _ _
    rw [e]
    exact OwnBytes.nil _ _ _
  · intro i u g hu hg
    have : u = .slice none 0 0 := by
      rw [List.getElem?_replicate] at hu; split at hu <;> simp_all
    subst this
    simp [Value.ownBlock] at hg
theorem mkM_succ (k c : Nat) (F : Ents) : mkM (k + 1) c F = mkM k c F ++ [mkRow c (F k)] := by simp [mkM, List.range_succ]
theorem set_mid {α : Type} (l m : List α) (x y : α) (k : Nat) (hk : l.length = k) : (l ++ x :: m).set k y = l ++ y :: m := by
  subst hk; simp
theorem getD_mid {α : Type} (l m : List α) (x d : α) (k : Nat) (hk : l.length = k) : (l ++ x :: m).getD k d = x := by
  subst hk; simp [List.getD]
end G294
namespace Go.Proofs.YtblfobbeojdihaaGreatDoor
open Go.RowKit G294

theorem infoRowB : (Tryz.prog.info? 22).map (fun i => (i.zero, i.size, i.bytes)) = some (some (.slice none 0 0), 1, 24) := by kernel_rfl

theorem infoElemB : (Tryz.prog.info? 5).map (fun i => (i.zero, i.size, i.bytes)) = some (some (.int .u8 0), 1, 1) := by kernel_rfl

set_option maxRecDepth 100000 in
set_option maxHeartbeats 2000000 in
theorem newGridB (r c g : Nat) (lb : Array Value) (F : Ents) (w : World) (eg : ∀ args w, (callFunc g args).run Tryz.prog w = .ok (.enter g args) w)
    (hat : GivesAt Tryz.prog g lb r c F w) (hr : r ≤ 1000) (hc : c ≤ 1000) :
    Calls Tryz.prog 74 #[.int .i64 r, .int .i64 c, .func (.func g) #[] lb] w (RetM 5 22 w (mkM r c F)) := by
  obtain ⟨i0, hi0, hz0, hz1, hz2⟩ := info_parts infoRowB
  obtain ⟨i1, hi1, hy0, hy1, hy2⟩ := info_parts infoElemB
  have HAT := Lib.hid hat
  clear hat
  go_enter Tryz.func74, Tryz.ntmps74
  go_wp2_with (at_make; refine wpList_make_full _ rfl _ _ _ rfl w.heap.size _ i0 _ 1 Tryz.underlying101 hi0 hz0 hz1 _ _ _ _ r rfl rfl rfl rfl ?b2 ?b3 ?b4 ?_)
  case b2 => rw [hz2]; omega
  case b3 => unfold maxLen; omega
  case b4 => exact Nat.le_refl _
  intro w1 hown1 hg1
  rw [toList_madeCells_one] at hown1
  have hb1 : Below w.heap.size w w1 := below_of_grown hg1 (Nat.le_refl _) (by simp)
  have hM1 : OwnM 5 22 w1 w.heap.size w1.heap.size (.slice (some ⟨w.heap.size, 0, none⟩) r r) (mkM 0 c F ++ List.replicate (r - 0) []) (List.replicate r (.slice none 0 0)) := own_blank hown1
  clear hg1 hown1
  go_wp2_with fail
  go_loopw [14] (fun i wr => ∃ (k : Nat) (vs : List Value), k ≤ r ∧ i = .int .i64 k ∧ OwnM 5 22 wr w.heap.size wr.heap.size (.slice (some ⟨w.heap.size, 0, none⟩) r r) (mkM k c F ++ List.replicate (r - k) []) vs ∧ Below w.heap.size w wr)
    (fun i _ => r - (intOf i).toNat)
  case atStart => exact ⟨0, _, Nat.zero_le _, rfl, hM1, hb1⟩
  case round =>
    obtain ⟨k, vs, hk, rfl, hM, hb⟩ := hrel
    clear hM1 hb1
    by_cases hlt : k < r
    · have hki : (k : Int) < (r : Int) := by omega
      go_wp2_with (at_make; refine wpList_make_full _ rfl _ _ _ rfl wr.heap.size _ i1 _ 1 Tryz.underlying22 hi1 hy0 hy1 _ _ _ _ c rfl rfl rfl rfl ?d2 ?d3 ?d4 ?_)
      case d2 => rw [hy2]; omega
      case d3 => unfold maxLen; omega
      case d4 => exact Nat.le_refl _
      intro w2 hown2 hg2
      rw [toList_madeCells_one] at hown2
      have hs2 := hg2.size
      have k2 : TurnIn 0 0 wr w2 := TurnIn.of_grown hg2 (by simp)
      have hM2 := hM.keep k2 (by omega)
      have hb2 : Below w.heap.size w w2 := k2.base hb (by have := hb.size; omega) (by omega)
      obtain ⟨u0, hu0, _⟩ := hM2.at k (by simp; omega)
      have hco := hM2.cellAt hu0
      have hfr := hM2.frozenAt k
      have hrow : OwnBytes 5 w2 wr.heap.size w2.heap.size (.slice (some ⟨wr.heap.size, 0, none⟩) c c) (mkRow c fun j => if j < 0 then F k j else 0) := by
        refine OwnBytes.of_made ?_
        rw [bys_zero c _ (fun j _ => if_neg (by omega))]
        simpa using hown2
      have hM3 := (hM2.put (k := k) (by simp [mkM]; omega) (by simp; omega) hrow (by omega) (by have := hb.size; omega) hs2).congr (L' := mkM k c F ++ (mkRow c fun j => if j < 0 then F k j else 0) :: List.replicate (r - k - 1) []) (by
        have e : List.replicate (r - k) ([] : List UInt8) = [] :: List.replicate (r - k - 1) [] := by
          rw [← List.replicate_succ]; congr 1; omega
        rw [e, set_mid _ _ _ _ _ (mkM_length k c F)])
      have hvs : (vs.set k (.slice (some ⟨wr.heap.size, 0, none⟩) c c))[k]? = some (.slice (some ⟨wr.heap.size, 0, none⟩) c c) := by
        have := (List.getElem?_eq_some_iff.1 hu0).1
        simp [this]
      have HVS := Lib.hid hvs
      have hb3 : Below w.heap.size w (w2.setCell ⟨w.heap.size, k, none⟩ (.slice (some ⟨wr.heap.size, 0, none⟩) c c)) := hb2.setCell (Nat.le_refl _) _
      have hc3 := hM3.cellAt hvs
      have hwr : w.heap.size ≤ wr.heap.size := hb.size
      clear hrow hM2 hown2 hg2 hb2 hM hb hvs k2
      generalize wr.heap.size = B at *
      generalize vs.set k (.slice (some ⟨B, 0, none⟩) c c) = vs1 at *
      go_wp2_with fail
      go_loopw [27] (fun i wq => ∃ m : Nat, m ≤ c ∧ i = .int .i64 m ∧ OwnM 5 22 wq w.heap.size wq.heap.size (.slice (some ⟨w.heap.size, 0, none⟩) r r) (mkM k c F ++ (mkRow c fun j => if j < m then F k j else 0) :: List.replicate (r - k - 1) []) vs1 ∧ Below w.heap.size w wq)
        (fun i _ => c - (intOf i).toNat)
      case atStart => exact ⟨0, Nat.zero_le _, rfl, by simpa using hM3, hb3⟩
      case round =>
        obtain ⟨m, hm, rfl, hM, hb⟩ := hrel
        clear hM3 hb3 hc3 hfr hco
        by_cases hlm : m < c
        · have hmi : (m : Int) < (c : Int) := by omega
          have hco := hM.cellAt HVS.out
          have hrow := hM.rows k _ HVS.out
          rw [getD_mid _ _ _ _ _ (mkM_length k c F)] at hrow
          have hcx := hrow.cellAt (k := m) (by rw [mkRow_length]; exact hlm)
          have hfr := hrow.frozenAt m
          have hst := fun q => ((hM.drewN q).store (j := m) (x := F k m) (k := k) (by rw [List.length_append, mkM_length, List.length_cons]; omega) HVS.out).congr (L' := mkM k c F ++ (mkRow c fun j => if j < m + 1 then F k j else 0) :: List.replicate (r - k - 1) []) (by
            rw [getD_mid _ _ _ _ _ (mkM_length k c F), set_mid _ _ _ _ _ (mkM_length k c F), mkRow_set]
            congr 2
            apply mkRow_congr
            intro j hj
            by_cases e : j = m
            · subst e; simp
            · rw [if_neg e]
              by_cases h2 : j < m
              · rw [if_pos h2, if_pos (by omega)]
              · rw [if_neg h2, if_neg (by omega)])
          have hcall := fun W (hW : Below w.heap.size w W) => HAT.out W k m hW hlt hlm
          have HST := Lib.hid hst
          have HCALL := Lib.hid hcall
          have hne : w.heap.size ≠ B := fun e => (hM.apart k _ B HVS.out rfl).1 (by rw [e]; rfl)
          have hne' : B ≠ w.heap.size := fun e => hne e.symm
          clear hcall hst
          go_wp2_with fail
          go_region_held3 (fun w' => w'.cell? ⟨w.heap.size, k, none⟩ = some (.slice (some ⟨B, 0, none⟩) c c))
            (first | go_keep)
            ((go_at_fn g; refine (HCALL.out _ (by first | assumption | exact below_drewN hb _)).mono ?_; rintro e w' ⟨rfl, q, rfl⟩))
          go_wp2_with fail
          go_roundw
          case rel => exact ⟨m + 1, by omega, by go_num, by simpa using HST.out (1 + q), (below_drewN hb _).setCell hwr _⟩
          case measure => simp [intOf]; omega
        · obtain rfl : m = c := by omega
          have hmi : ¬ (m : Int) < (m : Int) := by omega
          go_wp2_with fail
          go_roundw
          case rel => exact ⟨k + 1, vs1, by omega, by go_num, hM.congr (by
            rw [mkM_succ, List.append_assoc, show r - (k + 1) = r - k - 1 by omega]
            congr 2
            exact mkRow_congr fun j hj => if_pos hj), hb⟩
          case measure => simp [intOf]; omega
    · obtain rfl : k = r := by omega
      have hki : ¬ (k : Int) < (k : Int) := by omega
      go_wp2_with fail
      go_ret
      refine ⟨_, vs, rfl, ?_, TurnIn.of_below hb⟩
      rw [Nat.sub_self] at hM
      simpa using hM

theorem infoRowF : (Tryz.prog.info? 147).map (fun i => (i.zero, i.size, i.bytes)) = some (some (.slice none 0 0), 1, 24) := by kernel_rfl

theorem infoElemF : (Tryz.prog.info? 115).map (fun i => (i.zero, i.size, i.bytes)) = some (some (.int .u8 0), 1, 1) := by kernel_rfl

set_option maxRecDepth 100000 in
set_option maxHeartbeats 2000000 in
theorem newGridF (r c g : Nat) (lb : Array Value) (F : Ents) (w : World) (eg : ∀ args w, (callFunc g args).run Tryz.prog w = .ok (.enter g args) w)
    (hat : GivesAt Tryz.prog g lb r c F w) (hr : r ≤ 1000) (hc : c ≤ 1000) :
    Calls Tryz.prog 82 #[.int .i64 r, .int .i64 c, .func (.func g) #[] lb] w (RetM 115 147 w (mkM r c F)) := by
  obtain ⟨i0, hi0, hz0, hz1, hz2⟩ := info_parts infoRowF
  obtain ⟨i1, hi1, hy0, hy1, hy2⟩ := info_parts infoElemF
  have HAT := Lib.hid hat
  clear hat
  go_enter Tryz.func82, Tryz.ntmps82
  go_wp2_with (at_make; refine wpList_make_full _ rfl _ _ _ rfl w.heap.size _ i0 _ 1 Tryz.underlying113 hi0 hz0 hz1 _ _ _ _ r rfl rfl rfl rfl ?b2 ?b3 ?b4 ?_)
  case b2 => rw [hz2]; omega
  case b3 => unfold maxLen; omega
  case b4 => exact Nat.le_refl _
  intro w1 hown1 hg1
  rw [toList_madeCells_one] at hown1
  have hb1 : Below w.heap.size w w1 := below_of_grown hg1 (Nat.le_refl _) (by simp)
  have hM1 : OwnM 115 147 w1 w.heap.size w1.heap.size (.slice (some ⟨w.heap.size, 0, none⟩) r r) (mkM 0 c F ++ List.replicate (r - 0) []) (List.replicate r (.slice none 0 0)) := own_blank hown1
  clear hg1 hown1
  go_wp2_with fail
  go_loopw [14] (fun i wr => ∃ (k : Nat) (vs : List Value), k ≤ r ∧ i = .int .i64 k ∧ OwnM 115 147 wr w.heap.size wr.heap.size (.slice (some ⟨w.heap.size, 0, none⟩) r r) (mkM k c F ++ List.replicate (r - k) []) vs ∧ Below w.heap.size w wr)
    (fun i _ => r - (intOf i).toNat)
  case atStart => exact ⟨0, _, Nat.zero_le _, rfl, hM1, hb1⟩
  case round =>
    obtain ⟨k, vs, hk, rfl, hM, hb⟩ := hrel
    clear hM1 hb1
    by_cases hlt : k < r
    · have hki : (k : Int) < (r : Int) := by omega
      go_wp2_with (at_make; refine wpList_make_full _ rfl _ _ _ rfl wr.heap.size _ i1 _ 1 Tryz.underlying147 hi1 hy0 hy1 _ _ _ _ c rfl rfl rfl rfl ?d2 ?d3 ?d4 ?_)
      case d2 => rw [hy2]; omega
      case d3 => unfold maxLen; omega
      case d4 => exact Nat.le_refl _
      intro w2 hown2 hg2
      rw [toList_madeCells_one] at hown2
      have hs2 := hg2.size
      have k2 : TurnIn 0 0 wr w2 := TurnIn.of_grown hg2 (by simp)
      have hM2 := hM.keep k2 (by omega)
      have hb2 : Below w.heap.size w w2 := k2.base hb (by have := hb.size; omega) (by omega)
      obtain ⟨u0, hu0, _⟩ := hM2.at k (by simp; omega)
      have hco := hM2.cellAt hu0
      have hfr := hM2.frozenAt k
      have hrow : OwnBytes 115 w2 wr.heap.size w2.heap.size (.slice (some ⟨wr.heap.size, 0, none⟩) c c) (mkRow c fun j => if j < 0 then F k j else 0) := by
        refine OwnBytes.of_made ?_
        rw [bys_zero c _ (fun j _ => if_neg (by omega))]
        simpa using hown2
      have hM3 := (hM2.put (k := k) (by simp [mkM]; omega) (by simp; omega) hrow (by omega) (by have := hb.size; omega) hs2).congr (L' := mkM k c F ++ (mkRow c fun j => if j < 0 then F k j else 0) :: List.replicate (r - k - 1) []) (by
        have e : List.replicate (r - k) ([] : List UInt8) = [] :: List.replicate (r - k - 1) [] := by
          rw [← List.replicate_succ]; congr 1; omega
        rw [e, set_mid _ _ _ _ _ (mkM_length k c F)])
      have hvs : (vs.set k (.slice (some ⟨wr.heap.size, 0, none⟩) c c))[k]? = some (.slice (some ⟨wr.heap.size, 0, none⟩) c c) := by
        have := (List.getElem?_eq_some_iff.1 hu0).1
        simp [this]
      have HVS := Lib.hid hvs
      have hb3 : Below w.heap.size w (w2.setCell ⟨w.heap.size, k, none⟩ (.slice (some ⟨wr.heap.size, 0, none⟩) c c)) := hb2.setCell (Nat.le_refl _) _
      have hc3 := hM3.cellAt hvs
      have hwr : w.heap.size ≤ wr.heap.size := hb.size
      clear hrow hM2 hown2 hg2 hb2 hM hb hvs k2
      generalize wr.heap.size = B at *
      generalize vs.set k (.slice (some ⟨B, 0, none⟩) c c) = vs1 at *
      go_wp2_with fail
      go_loopw [27] (fun i wq => ∃ m : Nat, m ≤ c ∧ i = .int .i64 m ∧ OwnM 115 147 wq w.heap.size wq.heap.size (.slice (some ⟨w.heap.size, 0, none⟩) r r) (mkM k c F ++ (mkRow c fun j => if j < m then F k j else 0) :: List.replicate (r - k - 1) []) vs1 ∧ Below w.heap.size w wq)
        (fun i _ => c - (intOf i).toNat)
      case atStart => exact ⟨0, Nat.zero_le _, rfl, by simpa using hM3, hb3⟩
      case round =>
        obtain ⟨m, hm, rfl, hM, hb⟩ := hrel
        clear hM3 hb3 hc3 hfr hco
        by_cases hlm : m < c
        · have hmi : (m : Int) < (c : Int) := by omega
          have hco := hM.cellAt HVS.out
          have hrow := hM.rows k _ HVS.out
          rw [getD_mid _ _ _ _ _ (mkM_length k c F)] at hrow
          have hcx := hrow.cellAt (k := m) (by rw [mkRow_length]; exact hlm)
          have hfr := hrow.frozenAt m
          have hst := fun q => ((hM.drewN q).store (j := m) (x := F k m) (k := k) (by rw [List.length_append, mkM_length, List.length_cons]; omega) HVS.out).congr (L' := mkM k c F ++ (mkRow c fun j => if j < m + 1 then F k j else 0) :: List.replicate (r - k - 1) []) (by
            rw [getD_mid _ _ _ _ _ (mkM_length k c F), set_mid _ _ _ _ _ (mkM_length k c F), mkRow_set]
            congr 2
            apply mkRow_congr
            intro j hj
            by_cases e : j = m
            · subst e; simp
            · rw [if_neg e]
              by_cases h2 : j < m
              · rw [if_pos h2, if_pos (by omega)]
              · rw [if_neg h2, if_neg (by omega)])
          have hcall := fun W (hW : Below w.heap.size w W) => HAT.out W k m hW hlt hlm
          have HST := Lib.hid hst
          have HCALL := Lib.hid hcall
          have hne : w.heap.size ≠ B := fun e => (hM.apart k _ B HVS.out rfl).1 (by rw [e]; rfl)
          have hne' : B ≠ w.heap.size := fun e => hne e.symm
          clear hcall hst
          go_wp2_with fail
          go_region_held3 (fun w' => w'.cell? ⟨w.heap.size, k, none⟩ = some (.slice (some ⟨B, 0, none⟩) c c))
            (first | go_keep)
            ((go_at_fn g; refine (HCALL.out _ (by first | assumption | exact below_drewN hb _)).mono ?_; rintro e w' ⟨rfl, q, rfl⟩))
          go_wp2_with fail
          go_roundw
          case rel => exact ⟨m + 1, by omega, by go_num, by simpa using HST.out (1 + q), (below_drewN hb _).setCell hwr _⟩
          case measure => simp [intOf]; omega
        · obtain rfl : m = c := by omega
          have hmi : ¬ (m : Int) < (m : Int) := by omega
          go_wp2_with fail
          go_roundw
          case rel => exact ⟨k + 1, vs1, by omega, by go_num, hM.congr (by
            rw [mkM_succ, List.append_assoc, show r - (k + 1) = r - k - 1 by omega]
            congr 2
            exact mkRow_congr fun j hj => if_pos hj), hb⟩
          case measure => simp [intOf]; omega
    · obtain rfl : k = r := by omega
      have hki : ¬ (k : Int) < (k : Int) := by omega
      go_wp2_with fail
      go_ret
      refine ⟨_, vs, rfl, ?_, TurnIn.of_below hb⟩
      rw [Nat.sub_self] at hM
      simpa using hM

end Go.Proofs.YtblfobbeojdihaaGreatDoor

/- identityGrid and converted, on bytes and on field bytes. -/
namespace Go.Proofs.YtblfobbeojdihaaGreatDoor
open Go.RowKit G294

set_option maxHeartbeats 400000 in
theorem toB (x : UInt8) (w : World) : Calls Tryz.prog 104 #[.int .u8 (x.toNat : Int)] w fun e w' => e = .returned (.int .u8 (x.toNat : Int)) ∧ w = w' := by
  go_enter Tryz.func104, Tryz.ntmps104
  go_wp2_with fail
  go_ret
  exact ⟨rfl, rfl⟩

set_option maxHeartbeats 1000000 in
theorem convertedAtB (r c Bt Bg : Nat) (F : Ents) (v : Value) (w : World) (hBt : Bt < w.heap.size) (hBg : Bg < w.heap.size) (hvt : w.cell? ⟨Bt, 0, none⟩ = some (.func (.func 104) #[] #[])) (hv : w.cell? ⟨Bg, 0, none⟩ = some v) (hs : SeenM w v (mkM r c F)) :
    GivesAt Tryz.prog 113 #[.pointer (some ⟨Bt, 0, none⟩), .pointer (some ⟨Bg, 0, none⟩)] r c F w := by
  intro W i j hb hi hj
  have hv' := (hb.cell (p := ⟨Bg, 0, none⟩) hBg).trans hv
  have hvt' := (hb.cell (p := ⟨Bt, 0, none⟩) hBt).trans hvt
  obtain ⟨bb, off, cp, b', off', c', rfl, hl1, h1, h2, h3, hl2, h4⟩ := (hs.below hb).cellF i j hi hj
  unfold maxLen at hl1 hl2
  have hi0 : (0 : Int) ≤ (i : Int) := Int.natCast_nonneg _
  have hj0 : (0 : Int) ≤ (j : Int) := Int.natCast_nonneg _
  have hi' : (i : Int) < (r : Int) := by omega
  have hj' : (j : Int) < (c : Int) := by omega
  clear hv hs hvt
  go_enter Tryz.func113, Tryz.ntmps113
  go_wp2_with fail
  go_quiet ((go_at_call 104; exact quietly (toB _ _)))
  go_wp2_with fail
  go_ret
  exact ⟨rfl, _, rfl⟩

set_option maxHeartbeats 1000000 in
theorem convertedB (r c : Nat) (F : Ents) (v : Value) (w : World) (hs : SeenM w v (mkM r c F)) (hr : 1 ≤ r) (hr2 : r ≤ 1000) (hc : c ≤ 1000) :
    Calls Tryz.prog 103 #[v, .func (.func 104) #[] #[]] w (RetM 115 147 w (mkM r c F)) := by
  have hb0 : Below w.heap.size w (w.alloc (.cells #[v] 101)) := (Below.refl _ _).alloc (Nat.le_refl _) _
  have hb1 : Below w.heap.size w ((w.alloc (.cells #[v] 101)).alloc (.cells #[.func (.func 104) #[] #[]] 151)) := hb0.alloc (by simp) _
  have hG := convertedAtB r c (w.heap.size + 1) w.heap.size F v ((w.alloc (.cells #[v] 101)).alloc (.cells #[.func (.func 104) #[] #[]] 151)) (by simp) (by simp; omega) (by simp) (by simp) (hs.below hb1)
  have HG := Lib.hid hG
  obtain ⟨bb, off, cp, A, c', rfl, hl1, h1, h2, hl2, h3⟩ := hs.rowF 0 (by omega)
  have eg := enters_of Tryz.func113 (by kernel_rfl) rfl
  have HB1 := Lib.hid hb1
  unfold maxLen at hl1 hl2
  rw [Nat.add_zero] at h2
  have h0 : 0 < r := hr
  have hne : bb ≠ w.heap.size := by omega
  have hne' : w.heap.size ≠ bb := by omega
  have hq1 : ((w.alloc (.cells #[.slice (some ⟨bb, off, none⟩) r cp] 101)).alloc (.cells #[.func (.func 104) #[] #[]] 151)).cell? ⟨w.heap.size, 0, none⟩ = some (.slice (some ⟨bb, off, none⟩) r cp) := by simp
  have hq2 : ((w.alloc (.cells #[.slice (some ⟨bb, off, none⟩) r cp] 101)).alloc (.cells #[.func (.func 104) #[] #[]] 151)).cell? ⟨bb, off, none⟩ = some (.slice A c c') := (HB1.out.cell (p := ⟨bb, off, none⟩) h1).trans h2
  have hsz : w.heap.size < ((w.alloc (.cells #[.slice (some ⟨bb, off, none⟩) r cp] 101)).alloc (.cells #[.func (.func 104) #[] #[]] 151)).heap.size := by simp; omega
  clear hG hb1 hb0
  go_enter Tryz.func103, Tryz.ntmps103
  go_wp2_with fail
  generalize ((w.alloc (.cells #[.slice (some ⟨bb, off, none⟩) r cp] 101)).alloc (.cells #[.func (.func 104) #[] #[]] 151)) = w1 at *
  go_region_held3 (fun w' => w'.cell? ⟨w.heap.size, 0, none⟩ = some (.slice (some ⟨bb, off, none⟩) r cp) ∧ w'.cell? ⟨bb, off, none⟩ = some (.slice A c c'))
    (first | exact ⟨hq1, hq2⟩ | exact ⟨q1, q2⟩)
    ((go_at_call 82; refine (newGridF r c _ _ _ w1.drew eg (HG.out.later (Below.refl _ _).drew) (by omega) (by omega)).mono ?_; rintro e w' ⟨v', vs', rfl, hM, ht⟩; have q1 := (ht.to_below.cell (p := ⟨w.heap.size, 0, none⟩) hsz).trans hq1; have q2 := (ht.to_below.cell (p := ⟨bb, off, none⟩) (Nat.lt_trans h1 hsz)).trans hq2))
  go_wp2_with fail
  go_ret
  exact RetM.base ⟨_, _, rfl, hM, ht⟩ HB1.out.drew

set_option maxHeartbeats 400000 in
theorem toF (x : UInt8) (w : World) : Calls Tryz.prog 106 #[.int .u8 (x.toNat : Int)] w fun e w' => e = .returned (.int .u8 (x.toNat : Int)) ∧ w = w' := by
  go_enter Tryz.func106, Tryz.ntmps106
  go_wp2_with fail
  go_ret
  exact ⟨rfl, rfl⟩

set_option maxHeartbeats 1000000 in
theorem convertedAtF (r c Bt Bg : Nat) (F : Ents) (v : Value) (w : World) (hBt : Bt < w.heap.size) (hBg : Bg < w.heap.size) (hvt : w.cell? ⟨Bt, 0, none⟩ = some (.func (.func 106) #[] #[])) (hv : w.cell? ⟨Bg, 0, none⟩ = some v) (hs : SeenM w v (mkM r c F)) :
    GivesAt Tryz.prog 114 #[.pointer (some ⟨Bt, 0, none⟩), .pointer (some ⟨Bg, 0, none⟩)] r c F w := by
  intro W i j hb hi hj
  have hv' := (hb.cell (p := ⟨Bg, 0, none⟩) hBg).trans hv
  have hvt' := (hb.cell (p := ⟨Bt, 0, none⟩) hBt).trans hvt
  obtain ⟨bb, off, cp, b', off', c', rfl, hl1, h1, h2, h3, hl2, h4⟩ := (hs.below hb).cellF i j hi hj
  unfold maxLen at hl1 hl2
  have hi0 : (0 : Int) ≤ (i : Int) := Int.natCast_nonneg _
  have hj0 : (0 : Int) ≤ (j : Int) := Int.natCast_nonneg _
  have hi' : (i : Int) < (r : Int) := by omega
  have hj' : (j : Int) < (c : Int) := by omega
  clear hv hs hvt
  go_enter Tryz.func114, Tryz.ntmps114
  go_wp2_with fail
  go_quiet ((go_at_call 106; exact quietly (toF _ _)))
  go_wp2_with fail
  go_ret
  exact ⟨rfl, _, rfl⟩

set_option maxHeartbeats 1000000 in
theorem convertedF (r c : Nat) (F : Ents) (v : Value) (w : World) (hs : SeenM w v (mkM r c F)) (hr : 1 ≤ r) (hr2 : r ≤ 1000) (hc : c ≤ 1000) :
    Calls Tryz.prog 105 #[v, .func (.func 106) #[] #[]] w (RetM 5 22 w (mkM r c F)) := by
  have hb0 : Below w.heap.size w (w.alloc (.cells #[v] 113)) := (Below.refl _ _).alloc (Nat.le_refl _) _
  have hb1 : Below w.heap.size w ((w.alloc (.cells #[v] 113)).alloc (.cells #[.func (.func 106) #[] #[]] 153)) := hb0.alloc (by simp) _
  have hG := convertedAtF r c (w.heap.size + 1) w.heap.size F v ((w.alloc (.cells #[v] 113)).alloc (.cells #[.func (.func 106) #[] #[]] 153)) (by simp) (by simp; omega) (by simp) (by simp) (hs.below hb1)
  have HG := Lib.hid hG
  obtain ⟨bb, off, cp, A, c', rfl, hl1, h1, h2, hl2, h3⟩ := hs.rowF 0 (by omega)
  have eg := enters_of Tryz.func114 (by kernel_rfl) rfl
  have HB1 := Lib.hid hb1
  unfold maxLen at hl1 hl2
  rw [Nat.add_zero] at h2
  have h0 : 0 < r := hr
  have hne : bb ≠ w.heap.size := by omega
  have hne' : w.heap.size ≠ bb := by omega
  have hq1 : ((w.alloc (.cells #[.slice (some ⟨bb, off, none⟩) r cp] 113)).alloc (.cells #[.func (.func 106) #[] #[]] 153)).cell? ⟨w.heap.size, 0, none⟩ = some (.slice (some ⟨bb, off, none⟩) r cp) := by simp
  have hq2 : ((w.alloc (.cells #[.slice (some ⟨bb, off, none⟩) r cp] 113)).alloc (.cells #[.func (.func 106) #[] #[]] 153)).cell? ⟨bb, off, none⟩ = some (.slice A c c') := (HB1.out.cell (p := ⟨bb, off, none⟩) h1).trans h2
  have hsz : w.heap.size < ((w.alloc (.cells #[.slice (some ⟨bb, off, none⟩) r cp] 113)).alloc (.cells #[.func (.func 106) #[] #[]] 153)).heap.size := by simp; omega
  clear hG hb1 hb0
  go_enter Tryz.func105, Tryz.ntmps105
  go_wp2_with fail
  generalize ((w.alloc (.cells #[.slice (some ⟨bb, off, none⟩) r cp] 113)).alloc (.cells #[.func (.func 106) #[] #[]] 153)) = w1 at *
  go_region_held3 (fun w' => w'.cell? ⟨w.heap.size, 0, none⟩ = some (.slice (some ⟨bb, off, none⟩) r cp) ∧ w'.cell? ⟨bb, off, none⟩ = some (.slice A c c'))
    (first | exact ⟨hq1, hq2⟩ | exact ⟨q1, q2⟩)
    ((go_at_call 74; refine (newGridB r c _ _ _ w1.drew eg (HG.out.later (Below.refl _ _).drew) (by omega) (by omega)).mono ?_; rintro e w' ⟨v', vs', rfl, hM, ht⟩; have q1 := (ht.to_below.cell (p := ⟨w.heap.size, 0, none⟩) hsz).trans hq1; have q2 := (ht.to_below.cell (p := ⟨bb, off, none⟩) (Nat.lt_trans h1 hsz)).trans hq2))
  go_wp2_with fail
  go_ret
  exact RetM.base ⟨_, _, rfl, hM, ht⟩ HB1.out.drew

end Go.Proofs.YtblfobbeojdihaaGreatDoor

/- turned and identityGrid, on bytes and on field bytes. -/
namespace Go.Proofs.YtblfobbeojdihaaGreatDoor
open Go.RowKit G294

set_option maxHeartbeats 1000000 in
theorem turnedAtF (r c B : Nat) (F : Ents) (v : Value) (w : World) (hB : B < w.heap.size) (hv : w.cell? ⟨B, 0, none⟩ = some v) (hs : SeenM w v (mkM r c F)) :
    GivesAt Tryz.prog 107 #[.pointer (some ⟨B, 0, none⟩)] c r (fun i j => F j i) w := by
  intro W i j hb hi hj
  have hv' := (hb.cell (p := ⟨B, 0, none⟩) hB).trans hv
  obtain ⟨bb, off, cp, b', off', c', rfl, hl1, h1, h2, h3, hl2, h4⟩ := (hs.below hb).cellF j i hj hi
  unfold maxLen at hl1 hl2
  have hi' : (i : Int) < (c : Int) := by omega
  have hj' : (j : Int) < (r : Int) := by omega
  clear hv hs
  go_enter Tryz.func107, Tryz.ntmps107
  go_wp2_with fail
  go_ret
  exact ⟨rfl, 0, rfl⟩

set_option maxHeartbeats 1000000 in
theorem turnedF (r c : Nat) (F : Ents) (v : Value) (w : World) (hs : SeenM w v (mkM r c F)) (hr : 1 ≤ r) (hr2 : r ≤ 1000) (hc : c ≤ 1000) :
    Calls Tryz.prog 87 #[v] w (RetM 115 147 w (mkM c r fun i j => F j i)) := by
  have hb1 : Below w.heap.size w (w.alloc (.cells #[v] 113)) := (Below.refl _ _).alloc (Nat.le_refl _) _
  have hG := turnedAtF r c w.heap.size F v (w.alloc (.cells #[v] 113)) (by simp) (by simp) (hs.below hb1)
  have HG := Lib.hid hG
  obtain ⟨bb, off, cp, A, c', rfl, hl1, h1, h2, hl2, h3⟩ := hs.rowF 0 (by omega)
  have eg := enters_of Tryz.func107 (by kernel_rfl) rfl
  have HB1 := Lib.hid hb1
  unfold maxLen at hl1 hl2
  rw [Nat.add_zero] at h2
  have h0 : 0 < r := hr
  have hne : bb ≠ w.heap.size := by omega
  have hne' : w.heap.size ≠ bb := by omega
  have hq1 : (w.alloc (.cells #[.slice (some ⟨bb, off, none⟩) r cp] 113)).cell? ⟨w.heap.size, 0, none⟩ = some (.slice (some ⟨bb, off, none⟩) r cp) := by simp
  have hq2 : (w.alloc (.cells #[.slice (some ⟨bb, off, none⟩) r cp] 113)).cell? ⟨bb, off, none⟩ = some (.slice A c c') := (HB1.out.cell (p := ⟨bb, off, none⟩) h1).trans h2
  have hsz : w.heap.size < (w.alloc (.cells #[.slice (some ⟨bb, off, none⟩) r cp] 113)).heap.size := by simp
  clear hG hb1
  go_enter Tryz.func87, Tryz.ntmps87
  go_wp2_with fail
  generalize w.alloc (.cells #[.slice (some ⟨bb, off, none⟩) r cp] 113) = w1 at *
  go_region_held3 (fun w' => w'.cell? ⟨w.heap.size, 0, none⟩ = some (.slice (some ⟨bb, off, none⟩) r cp) ∧ w'.cell? ⟨bb, off, none⟩ = some (.slice A c c'))
    (first | exact ⟨hq1, hq2⟩ | exact ⟨q1, q2⟩)
    ((go_at_call 82; refine (newGridF c r _ _ _ w1.drew eg (HG.out.later (Below.refl _ _).drew) (by omega) (by omega)).mono ?_; rintro e w' ⟨v', vs', rfl, hM, ht⟩; have q1 := (ht.to_below.cell (p := ⟨w.heap.size, 0, none⟩) hsz).trans hq1; have q2 := (ht.to_below.cell (p := ⟨bb, off, none⟩) (Nat.lt_trans h1 hsz)).trans hq2))
  go_wp2_with fail
  go_ret
  exact RetM.base ⟨_, _, rfl, hM, ht⟩ HB1.out.drew

end Go.Proofs.YtblfobbeojdihaaGreatDoor

/- GoodMatrix, the program's and the model's. -/
namespace G294
theorem goodI_nat (n : Nat) : goodI (n : Int) = decide (1 ≤ n ∧ n ≤ 16) := by
  unfold goodI; rw [decide_eq_decide]; omega
theorem goodM_no1 {L : Mat} (h : goodI L.length = false) : goodM L = false := by
  rw [goodI_nat] at h; simp at h
  rw [Bool.eq_false_iff]; intro e
  have := (goodM_iff L).1 e
  omega
theorem goodM_no2 {L : Mat} (h : goodI (wid L) = false) : goodM L = false := by
  rw [goodI_nat] at h; simp at h
  rw [Bool.eq_false_iff]; intro e
  have := (goodM_iff L).1 e
  omega
theorem goodM_no3 {L : Mat} {k : Nat} (hk : k < L.length) (h : (L.getD k []).length ≠ wid L) : goodM L = false := by
  rw [Bool.eq_false_iff]; intro e
  exact h (((goodM_iff L).1 e).2.2.2.2 k hk)
theorem goodM_yes {L : Mat} (h1 : goodI L.length = true) (h2 : goodI (wid L) = true) (h : ∀ i, i < L.length → (L.getD i []).length = wid L) : goodM L = true := by
  rw [goodI_nat] at h1 h2; simp at h1 h2
  exact (goodM_iff L).2 ⟨h1.1, h1.2, h2.1, h2.2, h⟩
end G294
namespace Go.Proofs.YtblfobbeojdihaaGreatDoor
open Go.RowKit G294

set_option maxHeartbeats 400000 in
theorem goodSide_any (n : Int) (w : World) : Calls Tryz.prog 108 #[.int .i64 n] w fun e w' => e = .returned (.bool (goodI n)) ∧ w = w' := by
  by_cases h1 : 1 ≤ n
  · have hd : decide (1 ≤ n) = true := by simpa using h1
    by_cases h2 : n ≤ 16
    · have HV : Hid (goodI n = true) := by show goodI n = true; simp [goodI, h1, h2]
      go_enter Tryz.func108, Tryz.ntmps108
      go_wp2_with fail
      go_ret
      exact ⟨by rw [HV.out]; simp [h2], rfl⟩
    · have HV : Hid (goodI n = false) := by show goodI n = false; simp [goodI, h2]
      go_enter Tryz.func108, Tryz.ntmps108
      go_wp2_with fail
      go_ret
      exact ⟨by rw [HV.out]; simp [h2], rfl⟩
  · have hd : decide (1 ≤ n) = false := by simpa using h1
    have HV : Hid (goodI n = false) := by show goodI n = false; simp [goodI, h1]
    go_enter Tryz.func108, Tryz.ntmps108
    go_wp2_with fail
    go_ret
    exact ⟨by rw [HV.out]; rfl, rfl⟩

theorem l1In_side (n : Int) (w : World) : Calls Tryz.prog 61 #[.int .i64 n, .int .i64 1, .int .i64 16] w fun e w' => e = .returned (.bool (goodI n)) ∧ w = w' := l1In_any n 1 16 w

set_option maxRecDepth 100000 in
set_option maxHeartbeats 1000000 in
theorem igood_any (v : Value) (L : Mat) (w : World) (hs : SeenM w v L) :
    Calls Tryz.prog 99 #[.agg #[v]] w (RetBool w (goodM L)) := by
  have hb1 : Below w.heap.size w (w.alloc (.cells #[v] 70)) := (Below.refl _ _).alloc (Nat.le_refl _) _
  have HB1 := Lib.hid (TurnIn.of_below hb1)
  obtain ⟨A, c, rfl, hlc, hcm⟩ := hs.len
  unfold maxLen at hcm
  by_cases h1 : goodI L.length = true
  · have H1 := Lib.hid h1
    have hn : 1 ≤ L.length ∧ L.length ≤ 16 := by rw [goodI_nat] at h1; simpa using h1
    have HSM := Lib.hid hs
    obtain ⟨bb, off, c', u0, hv, _, _, hbl, hc0, hs0⟩ := hs.row 0 (by omega)
    obtain ⟨rfl, rfl⟩ : A = some ⟨bb, off, none⟩ ∧ c = c' := by simpa using hv
    obtain ⟨A0, c0, rfl, hl0, hm0, _⟩ := hs0
    rw [bys_length] at hc0 hl0
    rw [Nat.add_zero] at hc0
    unfold maxLen at hm0
    have hw1 : (w.alloc (.cells #[.slice (some ⟨bb, off, none⟩) L.length c] 70)).cell? ⟨bb, off, none⟩ = some (.slice A0 (L.getD 0 []).length c0) := (hb1.cell (p := ⟨bb, off, none⟩) hbl).trans hc0
    have hbx : (w.alloc (.cells #[.slice (some ⟨bb, off, none⟩) L.length c] 70)).cell? ⟨w.heap.size, 0, none⟩ = some (.slice (some ⟨bb, off, none⟩) L.length c) := by simp
    have HBW := Lib.hid hb1
    have hpos : 0 < L.length := by omega
    have hne : bb ≠ w.heap.size := by omega
    have HW : Hid (wid L = (L.getD 0 []).length) := rfl
    clear hv h1 hb1 hs
    generalize hll : L.length = n at *
    generalize hww : (L.getD 0 []).length = n0 at *
    have HLL := Lib.hid hll
    have HWW := Lib.hid hww
    clear hll hww
    by_cases h2 : goodI n0 = true
    · have H2 := Lib.hid h2
      clear h2
      go_enter Tryz.func99, Tryz.ntmps99
      go_wp2_with fail
      refine (goodSide_any _ _).mono ?_
      rintro e w' ⟨rfl, rfl⟩
      rw [H1.out]
      go_wp2_with fail
      refine (goodSide_any _ _).mono ?_
      rintro e w' ⟨rfl, rfl⟩
      rw [H2.out]
      go_wp2_with fail
      generalize w.alloc (.cells #[.slice (some ⟨bb, off, none⟩) n c] 70) = w1 at *
      go_loop [22] (fun i => ∃ k : Nat, k ≤ n ∧ i = .int .i64 k ∧ Hid (∀ i, i < k → (L.getD i []).length = n0)) (fun i => n - (intOf i).toNat)
      case atStart => exact ⟨0, Nat.zero_le _, rfl, fun i h => by omega⟩
      case round =>
        obtain ⟨k, hk, rfl, HK⟩ := hrel
        by_cases hlt : k < n
        · have hki : (k : Int) < (n : Int) := by omega
          obtain ⟨bb2, off2, c2, uk, hv, _, _, hbl2, hck, ⟨Ak, ck, rfl, hlk, hmk, _⟩⟩ := HSM.out.row k (by rw [HLL.out]; exact hlt)
          simp only [Value.slice.injEq, Option.some.injEq, Addr.mk.injEq, and_true] at hv
          obtain ⟨⟨rfl, rfl⟩, _, rfl⟩ := hv
          rw [bys_length] at hck hlk
          have hck' := (HBW.out.cell (p := ⟨bb, off + k, none⟩) hbl2).trans hck
          clear hck
          unfold maxLen at hmk
          by_cases he : (L.getD k []).length = n0
          · have hbb : (((L.getD k []).length : Int) != (n0 : Int)) = false := by rw [he]; simp
            have HK2 : Hid (∀ i, i < k + 1 → (L.getD i []).length = n0) := fun i hi => by
              by_cases e : i = k
              · rw [e]; exact he
              · exact HK.out i (by omega)
            clear he
            generalize (L.getD k []).length = nk at *
            go_wp2_with fail
            go_round
            case rel => exact ⟨k + 1, by omega, by go_num, HK2⟩
            case measure => simp [intOf]; omega
          · have hbb : (((L.getD k []).length : Int) != (n0 : Int)) = true := bne_iff_ne.2 (fun e => he (Int.natCast_inj.1 e))
            have HF := Lib.hid (goodM_no3 (L := L) (k := k) (by rw [HLL.out]; exact hlt) (by rw [HW.out]; exact he))
            clear he
            generalize (L.getD k []).length = nk at *
            go_wp2_with fail
            go_ret
            exact ⟨by rw [HF.out]; rfl, HB1.out⟩
        · obtain rfl : k = n := by omega
          have hki : ¬ (k : Int) < (k : Int) := by omega
          have HF := Lib.hid (goodM_yes (L := L) (by rw [HLL.out]; exact H1.out) (by rw [HW.out]; exact H2.out) (fun i hi => by rw [HW.out]; exact HK.out i (by rw [← HLL.out]; exact hi)))
          go_wp2_with fail
          go_ret
          exact ⟨by rw [HF.out]; rfl, HB1.out⟩
    · have H2 : Hid (goodI n0 = false) := by show goodI n0 = false; simpa using h2
      have HF := Lib.hid (goodM_no2 (L := L) (by rw [HW.out]; exact H2.out))
      clear h2
      go_enter Tryz.func99, Tryz.ntmps99
      go_wp2_with fail
      refine (goodSide_any _ _).mono ?_
      rintro e w' ⟨rfl, rfl⟩
      rw [H1.out]
      go_wp2_with fail
      refine (goodSide_any _ _).mono ?_
      rintro e w' ⟨rfl, rfl⟩
      rw [H2.out]
      go_wp2_with fail
      go_ret
      exact ⟨by rw [HF.out]; rfl, HB1.out⟩
  · have H1 : Hid (goodI L.length = false) := by show goodI L.length = false; simpa using h1
    have HF := Lib.hid (goodM_no1 H1.out)
    clear h1 hs hb1
    generalize L.length = n at *
    go_enter Tryz.func99, Tryz.ntmps99
    go_wp2_with fail
    refine (goodSide_any _ _).mono ?_
    rintro e w' ⟨rfl, rfl⟩
    rw [H1.out]
    go_wp2_with fail
    go_ret
    exact ⟨by rw [HF.out]; rfl, HB1.out⟩

end Go.Proofs.YtblfobbeojdihaaGreatDoor

/- The program's Identity, Transposed, Vandermonde and Cauchy. -/
namespace G294
open Go Go.RowKit
theorem turn_setCell (w : World) (B o : Nat) (x : Value) : TurnIn B (B + 1) w (w.setCell ⟨B, o, none⟩ x) :=
  ⟨rfl, rfl, rfl, by simp, fun k hk hd => heap_setCell_other w ⟨B, o, none⟩ k x (by intro e; simp at e; omega)⟩
theorem cell_set_other (w : World) {B B' : Nat} (o o' : Nat) (x : Value) (h : B ≠ B') : (w.setCell ⟨B, o, none⟩ x).cell? ⟨B', o', none⟩ = w.cell? ⟨B', o', none⟩ :=
  World.cell?_of_block (heap_setCell_other w ⟨B, o, none⟩ B' x (by intro e; simp at e; omega))
theorem frozen_set_other (w : World) {B B' : Nat} (o o' : Nat) (x : Value) (h : B ≠ B') : (w.setCell ⟨B, o, none⟩ x).frozen? ⟨B', o', none⟩ = w.frozen? ⟨B', o', none⟩ :=
  World.frozen?_of_block (heap_setCell_other w ⟨B, o, none⟩ B' x (by intro e; simp at e; omega))
/-- a result is stored into a variable that the call made ahead of it -/
theorem ret_store {E EE : TypeId} {w w1 w' : World} {v : Value} {L : Mat} {vs : List Value} (hb : Below w.heap.size w w1) (hM : OwnM E EE w' w1.heap.size w'.heap.size v L vs) (ht : TurnIn 0 0 w1 w') (B o : Nat) (h1 : w.heap.size ≤ B) (h2 : B < w1.heap.size) (x : Value) :
    OwnM E EE (w'.setCell ⟨B, o, none⟩ x) w.heap.size (w'.setCell ⟨B, o, none⟩ x).heap.size v L vs ∧ TurnIn 0 0 w (w'.setCell ⟨B, o, none⟩ x) := by
  have k := turn_setCell w' B o x
  have hs := k.size
  refine ⟨(hM.keep k (by omega)).wider (by have := hb.size; omega) hs (Nat.le_refl _), TurnIn.of_below ?_⟩
  have h3 : Below w.heap.size w w' := ht.base hb hb.size (by omega)
  exact h3.setCell h1 _
theorem cell_turn {w w' : World} (t : TurnIn 0 0 w w') {B o : Nat} {x : Value} (h : w.cell? ⟨B, o, none⟩ = some x) (hB : B < w.heap.size) : w'.cell? ⟨B, o, none⟩ = some x := (t.to_below.cell (p := ⟨B, o, none⟩) hB).trans h
theorem frozen_turn {w w' : World} (t : TurnIn 0 0 w w') {B o : Nat} {x : Bool} (h : w.frozen? ⟨B, o, none⟩ = x) (hB : B < w.heap.size) : w'.frozen? ⟨B, o, none⟩ = x := (t.to_below.frozen (p := ⟨B, o, none⟩) hB).trans h
end G294
namespace Go.Proofs.YtblfobbeojdihaaGreatDoor
open Go.RowKit G294

theorem vand_u8 (i j : Nat) (hi : i < 256) : ((vandF i j).toNat : Int) = (gp i j : Nat) := by
  unfold vandF; rw [UInt8.toNat_ofNat', Nat.mod_eq_of_lt (gp_lt hi j)]

theorem cau_u8 (c i j : Nat) (h1 : c + i < 256) (h2 : j < 256) : ((cauF c i j).toNat : Int) = (gi ((c + i) ^^^ j) : Nat) := by
  unfold cauF; rw [UInt8.toNat_ofNat', Nat.mod_eq_of_lt (gi_lt (xor_lt h1 h2))]
end Go.Proofs.YtblfobbeojdihaaGreatDoor

/- Arrays of 20 bytes: the program's hidden. -/
namespace G294
open Go
theorem hid_splice (s : UInt8) (l : List UInt8) (h : l.length ≤ 19) : splice (bys (pad20 [s])) 1 (bys l) = bys (pad20 (s :: l)) := by
  have e1 : bys (pad20 [s]) = .int .u8 (s.toNat : Int) :: List.replicate 19 (.int .u8 0) := rfl
  have e2 : bys (pad20 (s :: l)) = .int .u8 (s.toNat : Int) :: (bys l ++ List.replicate (19 - l.length) (.int .u8 0)) := by
    simp [pad20, bys, show 20 - (l.length + 1) = 19 - l.length by omega]
  rw [e1, e2]
  unfold splice
  rw [bys_length, Nat.add_comm 1, List.drop_succ_cons, List.drop_replicate]
  rfl
end G294
namespace Go.Proofs.YtblfobbeojdihaaGreatDoor
open Go.RowKit G294

theorem infoCoef : (Tryz.prog.info? 54).map (fun i => (i.zero, i.size)) = some (some (aggL (List.replicate 20 0)), 20) := by kernel_rfl

theorem zeroCoef : (Tryz.prog.info? 54).map (·.zero) = some (some (aggL (List.replicate 20 0))) := by
  have := infoCoef
  cases h : Tryz.prog.info? 54 <;> simp_all

theorem sizeCoef : (Tryz.prog.info? 54).map (·.size) = some 20 := by
  have := infoCoef
  cases h : Tryz.prog.info? 54 <;> simp_all

theorem sizeByteA : (Tryz.prog.info? 5).map (·.size) = some 1 := by
  have := infoByte
  cases h : Tryz.prog.info? 5 <;> simp_all

end Go.Proofs.YtblfobbeojdihaaGreatDoor

/- Arrays of 20 bytes: the program's withRoot. -/
namespace G294
open Go
theorem root_splice (V : List UInt8) (h : V.length = 20) : splice (bys (List.replicate 20 0)) 1 (bys (V.take 19)) = bys (0 :: V.take 19) := by
  have e1 : bys (List.replicate 20 0) = .int .u8 0 :: List.replicate 19 (.int .u8 0) := rfl
  have e2 : (V.take 19).length = 19 := by simp [h]
  rw [e1]
  unfold splice
  rw [bys_length, e2]
  simp [bys]
end G294
namespace Go.Proofs.YtblfobbeojdihaaGreatDoor
open Go.RowKit G294

set_option maxRecDepth 100000 in
set_option maxHeartbeats 2000000 in
theorem withRoot_own (V : List UInt8) (r : UInt8) (w : World) (hV : V.length = 20) (ht : Tab w) (h0 : 3 < w.heap.size) :
    Calls Tryz.prog 37 #[aggL V, .int .u8 (r.toNat : Int)] w fun e w' => e = .returned (aggL (wrC r V)) ∧ TurnIn 0 0 w w' := by
  have HSP := Lib.hid (root_splice V hV)
  have HL19 : Hid ((0 :: V.take 19).length = V.length) := by show _ = _; simp [hV]
  have HLW : Hid ((wrC r V).length = 20) := by
    show _ = _
    unfold wrC
    rw [addL_lenS _ _ (by rw [scaleL_lenS]; exact HL19.out), HL19.out, hV]
  have HT := Lib.hid ht
  clear ht
  go_enter Tryz.func37, Tryz.ntmps37
  go_wp2_with (refine wpList_box_arr rfl 54 _ rfl V rfl ?_)
  intro W1 hW1
  replace hW1 := hW1.out
  have t1 := hW1 ▸ turn_alloc w (.cells (bys V).toArray 54)
  have r1 := hW1 ▸ ArrAt.new w 54 V
  have z1 := hW1 ▸ World.size_alloc w (.cells (bys V).toArray 54)
  clear hW1
  generalize hB : w.heap.size = B at *
  have HBE := Lib.hid hB
  clear hB
  go_wp2_with (refine wpList_alloc_arr rfl 54 rfl _ zeroCoef ?_)
  intro W2 hW2
  replace hW2 := hW2.out
  have t2 := hW2 ▸ turn_alloc W1 (.cells (bys (List.replicate 20 0)).toArray 54)
  have r2 := hW2 ▸ ArrAt.new W1 54 (List.replicate 20 0)
  have z2 := hW2 ▸ World.size_alloc W1 (.cells (bys (List.replicate 20 0)).toArray 54)
  rw [z1] at r2 z2
  replace r1 := r1.keep t2 (by omega)
  replace t1 := turn_trans t1 t2 (by omega)
  clear hW2 t2 z1
  go_wp2_with (refine wpList_alloc_arr rfl 54 rfl _ zeroCoef ?_)
  intro W3 hW3
  replace hW3 := hW3.out
  have t3 := hW3 ▸ turn_alloc W2 (.cells (bys (List.replicate 20 0)).toArray 54)
  have r3 := hW3 ▸ ArrAt.new W2 54 (List.replicate 20 0)
  have z3 := hW3 ▸ World.size_alloc W2 (.cells (bys (List.replicate 20 0)).toArray 54)
  rw [z2] at r3 z3
  replace r1 := r1.keep t3 (by omega)
  replace r2 := r2.keep t3 (by omega)
  replace t1 := turn_trans t1 t3 (by omega)
  clear hW3 t3 z2
  have HC4 : Hid (∀ v ∈ bys (V.take 19), v.oneCell' = true) := fun u hu => bys_one u _ hu
  have HC1 : Hid ((bys (V.take 19)).length = 19) := by show _ = _; simp [hV]
  have HC2 : Hid (∀ j v, (bys (V.take 19))[j]? = some v → W3.drew.cell? ((⟨B, 0, none⟩ : Addr).add j) = some v) := fun j v hv => by
    have hj : j < 19 := by have := (List.getElem?_eq_some_iff.1 hv).1; rw [HC1.out] at this; exact this
    rw [Addr.add_lit, Nat.zero_add]
    rw [bys_get _ j (by simp [hV]; omega)] at hv
    rw [show W3.drew.cell? ⟨B, j, none⟩ = W3.cell? ⟨B, j, none⟩ from rfl, r1.cell j (by omega), ← hv]
    simp
  go_wp2_with fail
  go_region_law (refine step_copy_splice rfl _ _ _ _ rfl 5 Tryz.underlying22 sizeByteA (some ⟨B + 1 + 1, 1, none⟩) (some ⟨B, 0, none⟩) 19 19 20 20 rfl rfl (B + 1 + 1) 1 (bys (List.replicate 20 0)) 54 r3 (bys (V.take 19)) (by rw [HC1.out]; rfl) (fun _ => ⟨rfl, _, rfl, HC2.out⟩) (by rw [HC1.out]; simp) HC4.out (B + 1 + 1) W3 (Below.refl _ _).drew (Nat.le_refl _) ?_; intro W4 hg4 hb4)
  all_goals
    rw [HSP.out] at hg4
    have r4 : ArrAt W4 (B + 1 + 1) 54 (mixK r (0 :: V.take 19) V 0) := by rw [mixK_zero]; exact hg4.out
    have t4 := turn_from hb4
    rw [z3] at t4
    have z4 : B + 1 + 1 + 1 ≤ W4.heap.size := by have := hb4.size; omega
    replace r1 := r1.keep t4 (by omega)
    replace r2 := r2.keep t4 (by omega)
    replace t1 := turn_trans t1 t4 (by have := HBE.out; omega)
    clear hg4 hb4 t4 r3 HC1 HC2 HC4
    go_wp2_with (refine wpList_load_arr rfl 54 _ rfl B 20 20 5 _ _ rfl r1 sizeCoef Tryz.underlying54 hV ?_)
    intro u hu
    replace hu := hu.out
    subst hu
    go_wp2_with fail
    go_loopw [12] (fun i wr => ∃ k : Nat, k ≤ 20 ∧ i = .int .i64 k ∧ ArrAt wr (B + 1 + 1) 54 (mixK r (0 :: V.take 19) V k) ∧ ArrAt wr (B + 1) 54 (List.replicate 20 0) ∧ TurnIn 0 0 w wr ∧ B + 1 + 1 + 1 ≤ wr.heap.size)
      (fun i _ => 20 - (intOf i).toNat)
    case atStart => exact ⟨0, by omega, rfl, r4, r2, t1, z4⟩
    case round =>
      obtain ⟨k, hk, rfl, q4, q2, q1, z5⟩ := hrel
      clear r4 r2 t1 z4 r1 z3
      by_cases hlt : k < 20
      · have hki : (k : Int) < 20 := by omega
        have hkV : k < V.length := by omega
        have hkM : k < (0 :: V.take 19).length := by rw [HL19.out]; exact hkV
        have hcx := q4.cellAt (mixK_get r (0 :: V.take 19) V HL19.out k hkM)
        have hfr := q4.frozen k
        have htab : Tab wr := HT.out.below q1.to_below (by rw [HBE.out]; exact h0)
        obtain ⟨c, hc⟩ : ∃ c, c = V[k] := ⟨_, rfl⟩
        obtain ⟨m, hm⟩ : ∃ m, m = (0 :: V.take 19)[k] := ⟨_, rfl⟩
        rw [← hm] at hcx
        have HC := Lib.hid (stillA (times_u8 r c wr.drew (show Tab wr.drew from htab)))
        have hxor := xor_u8 m (gmul r c)
        have hst := q4.set k (m ^^^ gmul r c)
        rw [hm, hc, mixK_set r (0 :: V.take 19) V HL19.out k hkM hkV] at hst
        rw [← hm, ← hc] at hst
        have tst := turn_set wr (B + 1 + 1) k (.int .u8 ((m ^^^ gmul r c).toNat : Int))
        have q2' := q2.keep tst (by omega)
        have q1' : TurnIn 0 0 w _ := turn_trans q1 tst (by have := HBE.out; omega)
        have HST := Lib.hid hst
        have HQ2 := Lib.hid q2'
        have HQ1 := Lib.hid q1'
        have HCC : Hid (c = V[k]) := hc
        clear hst q2' q1' tst hm hc htab
        go_wp2_with (refine wpList_index_arr rfl 54 _ _ rfl V k 20 5 rfl rfl Tryz.underlying54 Tryz.underlying5 sizeByteA hV hkV ?_)
        intro u hu
        replace hu := hu.out
        rw [← HCC.out] at hu
        subst hu
        go_wp2_with fail
        refine wp_region_still_tail 8 (by kernel_rfl) (by kernel_rfl) ?_
        simp only [List.take_succ_cons, List.take_zero, List.drop_succ_cons, List.drop_zero]
        repeat (first | still_step | still_call (HC.out))
        refine wpStill_nil ?_
        go_wp2_with fail
        go_roundw
        case rel => exact ⟨k + 1, by omega, by go_num, HST.out, HQ2.out, turn_drewA HQ1.out, by simp; omega⟩
        case measure => simp [intOf]; omega
      · obtain rfl : k = 20 := by omega
        have hki : ¬ ((20 : Nat) : Int) < 20 := by omega
        have hend : mixK r (0 :: V.take 19) V 20 = wrC r V := mixK_end r _ V HL19.out 20 (by rw [HL19.out, hV]; exact Nat.le_refl _)
        rw [hend] at q4
        clear hend
        go_wp2_with (refine wpList_load_arr rfl 54 _ rfl (B + 1 + 1) 20 20 5 _ _ rfl q4 sizeCoef Tryz.underlying54 HLW.out ?_)
        intro u hu
        replace hu := hu.out
        subst hu
        go_wp2_with (refine wpList_store_arr rfl 54 _ _ rfl (B + 1) 20 _ _ (wrC r V) rfl rfl q2 sizeCoef (by simp) HLW.out ?_)
        intro W5 hW5
        replace hW5 := hW5.out
        have r5 := hW5 ▸ q2.row (wrC r V)
        have t5 := hW5 ▸ turn_row wr (B + 1) (bys (wrC r V)).toArray
        have hb6 : TurnIn 0 0 w W5 := turn_trans q1 t5 (by have := HBE.out; omega)
        clear hW5
        go_wp2_with fail
        exact bodyPost_ret (ret_arr rfl _ (B + 1) 20 20 _ 5 _ rfl r5 Tryz.underlying54 sizeCoef HLW.out) rfl ⟨rfl, hb6⟩

end Go.Proofs.YtblfobbeojdihaaGreatDoor
