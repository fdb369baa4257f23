/- newGrid: rows of a new grid, entry by entry, by whatever function value. -/
import Derived.Test.YtfglkgeeelapgaaDoorProg
import Derived.Deep.QuietTactic
import Derived.BigQuiet
import Derived.Deep.RegionHeld3
import Derived.Shelf.Abstract
import Derived.Test.YtfglkgeeelapgaaDoorMatMem
set_option linter.unusedSimpArgs false
set_option linter.unusedVariables false
namespace G294
open Go Go.RowKit
/-- the function value g with what it captured hands back F i j at i, j; it may draw; it turns and lays nothing -/
def GivesAt (P : Program) (g : Nat) (lb : Array Value) (r c : Nat) (F : Ents) (w : World) : Prop :=
  ∀ (W : World) (i j : Nat), Below w.heap.size w W → i < r → j < c → Calls P g (#[.int .i64 i, .int .i64 j] ++ lb) W fun e w' => e = .returned (.int .u8 ((F i j).toNat : Int)) ∧ ∃ q, w' = W.drewN q
theorem GivesAt.later {P : Program} {g : Nat} {lb : Array Value} {r c : Nat} {F : Ents} {w W : World} (h : GivesAt P g lb r c F w) (hb : Below w.heap.size w W) : GivesAt P g lb r c F W :=
  fun W' i j hb' hi hj => h W' i j (hb.trans (hb'.mono hb.size)) hi hj
theorem getD_rep (n i : Nat) : (List.replicate n ([] : List UInt8)).getD i [] = [] := by
  simp only [List.getD, List.getElem?_replicate]; split <;> rfl
theorem own_blank {E EE : TypeId} {w w1 : World} {r c : Nat} {F : Ents} {v : Value} (h : w1.ownsRow w.heap.size EE 1 v r (List.replicate r (.slice none 0 0))) :
    OwnM E EE w1 w.heap.size w1.heap.size v (mkM 0 c F ++ List.replicate (r - 0) []) (List.replicate r (.slice none 0 0)) := by
  refine ⟨by simpa using h, Nat.le_refl _, fun g e => (h.lt g e).2, ?_, ?_⟩
  · intro i u hu
    have : u = .slice none 0 0 := by
      rw [List.getElem?_replicate] at hu; split at hu <;> simp_all
    subst this
    have e : (mkM 0 c F ++ List.replicate (r - 0) []).getD i [] = [] := by
      have e0 : mkM 0 c F = [] := rfl
      rw [e0, List.nil_append]; exact getD_rep _ _
    rw [e]
    exact OwnBytes.nil _ _ _
  · intro i u g hu hg
    have : u = .slice none 0 0 := by
      rw [List.getElem?_replicate] at hu; split at hu <;> simp_all
    subst this
    simp [Value.ownBlock] at hg
theorem mkM_succ (k c : Nat) (F : Ents) : mkM (k + 1) c F = mkM k c F ++ [mkRow c (F k)] := by simp [mkM, List.range_succ]
theorem set_mid {α : Type} (l m : List α) (x y : α) (k : Nat) (hk : l.length = k) : (l ++ x :: m).set k y = l ++ y :: m := by
  subst hk; simp
theorem getD_mid {α : Type} (l m : List α) (x d : α) (k : Nat) (hk : l.length = k) : (l ++ x :: m).getD k d = x := by
  subst hk; simp [List.getD]
end G294
namespace Go.Proofs.YtfglkgeeelapgaaDoor
open Go.RowKit G294

theorem infoRowB : (Tryd.prog.info? 22).map (fun i => (i.zero, i.size, i.bytes)) = some (some (.slice none 0 0), 1, 24) := by kernel_rfl

theorem infoElemB : (Tryd.prog.info? 5).map (fun i => (i.zero, i.size, i.bytes)) = some (some (.int .u8 0), 1, 1) := by kernel_rfl

set_option maxRecDepth 100000 in
set_option maxHeartbeats 2000000 in
theorem newGridB (r c g : Nat) (lb : Array Value) (F : Ents) (w : World) (eg : ∀ args w, (callFunc g args).run Tryd.prog w = .ok (.enter g args) w)
    (hat : GivesAt Tryd.prog g lb r c F w) (hr : r ≤ 1000) (hc : c ≤ 1000) :
    Calls Tryd.prog 67 #[.int .i64 r, .int .i64 c, .func (.func g) #[] lb] w (RetM 5 22 w (mkM r c F)) := by
  obtain ⟨i0, hi0, hz0, hz1, hz2⟩ := info_parts infoRowB
  obtain ⟨i1, hi1, hy0, hy1, hy2⟩ := info_parts infoElemB
  have HAT := Lib.hid hat
  clear hat
  go_enter Tryd.func67, Tryd.ntmps67
  go_wp2_with (at_make; refine wpList_make_full _ rfl _ _ _ rfl w.heap.size _ i0 _ 1 Tryd.underlying83 hi0 hz0 hz1 _ _ _ _ r rfl rfl rfl rfl ?b2 ?b3 ?b4 ?_)
  case b2 => rw [hz2]; omega
  case b3 => unfold maxLen; omega
  case b4 => exact Nat.le_refl _
  intro w1 hown1 hg1
  rw [toList_madeCells_one] at hown1
  have hb1 : Below w.heap.size w w1 := below_of_grown hg1 (Nat.le_refl _) (by simp)
  have hM1 : OwnM 5 22 w1 w.heap.size w1.heap.size (.slice (some ⟨w.heap.size, 0, none⟩) r r) (mkM 0 c F ++ List.replicate (r - 0) []) (List.replicate r (.slice none 0 0)) := own_blank hown1
  clear hg1 hown1
  go_wp2_with fail
  go_loopw [14] (fun i wr => ∃ (k : Nat) (vs : List Value), k ≤ r ∧ i = .int .i64 k ∧ OwnM 5 22 wr w.heap.size wr.heap.size (.slice (some ⟨w.heap.size, 0, none⟩) r r) (mkM k c F ++ List.replicate (r - k) []) vs ∧ Below w.heap.size w wr)
    (fun i _ => r - (intOf i).toNat)
  case atStart => exact ⟨0, _, Nat.zero_le _, rfl, hM1, hb1⟩
  case round =>
    obtain ⟨k, vs, hk, rfl, hM, hb⟩ := hrel
    clear hM1 hb1
    by_cases hlt : k < r
    · have hki : (k : Int) < (r : Int) := by omega
      go_wp2_with (at_make; refine wpList_make_full _ rfl _ _ _ rfl wr.heap.size _ i1 _ 1 Tryd.underlying22 hi1 hy0 hy1 _ _ _ _ c rfl rfl rfl rfl ?d2 ?d3 ?d4 ?_)
      case d2 => rw [hy2]; omega
      case d3 => unfold maxLen; omega
      case d4 => exact Nat.le_refl _
      intro w2 hown2 hg2
      rw [toList_madeCells_one] at hown2
      have hs2 := hg2.size
      have k2 : TurnIn 0 0 wr w2 := TurnIn.of_grown hg2 (by simp)
      have hM2 := hM.keep k2 (by omega)
      have hb2 : Below w.heap.size w w2 := k2.base hb (by have := hb.size; omega) (by omega)
      obtain ⟨u0, hu0, _⟩ := hM2.at k (by simp; omega)
      have hco := hM2.cellAt hu0
      have hfr := hM2.frozenAt k
      have hrow : OwnBytes 5 w2 wr.heap.size w2.heap.size (.slice (some ⟨wr.heap.size, 0, none⟩) c c) (mkRow c fun j => if j < 0 then F k j else 0) := by
        refine OwnBytes.of_made ?_
        rw [bys_zero c _ (fun j _ => if_neg (by omega))]
        simpa using hown2
      have hM3 := (hM2.put (k := k) (by simp [mkM]; omega) (by simp; omega) hrow (by omega) (by have := hb.size; omega) hs2).congr (L' := mkM k c F ++ (mkRow c fun j => if j < 0 then F k j else 0) :: List.replicate (r - k - 1) []) (by
        have e : List.replicate (r - k) ([] : List UInt8) = [] :: List.replicate (r - k - 1) [] := by
          rw [← List.replicate_succ]; congr 1; omega
        rw [e, set_mid _ _ _ _ _ (mkM_length k c F)])
      have hvs : (vs.set k (.slice (some ⟨wr.heap.size, 0, none⟩) c c))[k]? = some (.slice (some ⟨wr.heap.size, 0, none⟩) c c) := by
        have := (List.getElem?_eq_some_iff.1 hu0).1
        simp [this]
      have HVS := Lib.hid hvs
      have hb3 : Below w.heap.size w (w2.setCell ⟨w.heap.size, k, none⟩ (.slice (some ⟨wr.heap.size, 0, none⟩) c c)) := hb2.setCell (Nat.le_refl _) _
      have hc3 := hM3.cellAt hvs
      have hwr : w.heap.size ≤ wr.heap.size := hb.size
      clear hrow hM2 hown2 hg2 hb2 hM hb hvs k2
      generalize wr.heap.size = B at *
      generalize vs.set k (.slice (some ⟨B, 0, none⟩) c c) = vs1 at *
      go_wp2_with fail
      go_loopw [27] (fun i wq => ∃ m : Nat, m ≤ c ∧ i = .int .i64 m ∧ OwnM 5 22 wq w.heap.size wq.heap.size (.slice (some ⟨w.heap.size, 0, none⟩) r r) (mkM k c F ++ (mkRow c fun j => if j < m then F k j else 0) :: List.replicate (r - k - 1) []) vs1 ∧ Below w.heap.size w wq)
        (fun i _ => c - (intOf i).toNat)
      case atStart => exact ⟨0, Nat.zero_le _, rfl, by simpa using hM3, hb3⟩
      case round =>
        obtain ⟨m, hm, rfl, hM, hb⟩ := hrel
        clear hM3 hb3 hc3 hfr hco
        by_cases hlm : m < c
        · have hmi : (m : Int) < (c : Int) := by omega
          have hco := hM.cellAt HVS.out
          have hrow := hM.rows k _ HVS.out
          rw [getD_mid _ _ _ _ _ (mkM_length k c F)] at hrow
          have hcx := hrow.cellAt (k := m) (by rw [mkRow_length]; exact hlm)
          have hfr := hrow.frozenAt m
          have hst := fun q => ((hM.drewN q).store (j := m) (x := F k m) (k := k) (by rw [List.length_append, mkM_length, List.length_cons]; omega) HVS.out).congr (L' := mkM k c F ++ (mkRow c fun j => if j < m + 1 then F k j else 0) :: List.replicate (r - k - 1) []) (by
            rw [getD_mid _ _ _ _ _ (mkM_length k c F), set_mid _ _ _ _ _ (mkM_length k c F), mkRow_set]
            congr 2
            apply mkRow_congr
            intro j hj
            by_cases e : j = m
            · subst e; simp
            · rw [if_neg e]
              by_cases h2 : j < m
              · rw [if_pos h2, if_pos (by omega)]
              · rw [if_neg h2, if_neg (by omega)])
          have hcall := fun W (hW : Below w.heap.size w W) => HAT.out W k m hW hlt hlm
          have HST := Lib.hid hst
          have HCALL := Lib.hid hcall
          have hne : w.heap.size ≠ B := fun e => (hM.apart k _ B HVS.out rfl).1 (by rw [e]; rfl)
          have hne' : B ≠ w.heap.size := fun e => hne e.symm
          clear hcall hst
          go_wp2_with fail
          go_region_held3 (fun w' => w'.cell? ⟨w.heap.size, k, none⟩ = some (.slice (some ⟨B, 0, none⟩) c c))
            (first | go_keep)
            ((go_at_fn g; refine (HCALL.out _ (by first | assumption | exact below_drewN hb _)).mono ?_; rintro e w' ⟨rfl, q, rfl⟩))
          go_wp2_with fail
          go_roundw
          case rel => exact ⟨m + 1, by omega, by go_num, by simpa using HST.out (1 + q), (below_drewN hb _).setCell hwr _⟩
          case measure => simp [intOf]; omega
        · obtain rfl : m = c := by omega
          have hmi : ¬ (m : Int) < (m : Int) := by omega
          go_wp2_with fail
          go_roundw
          case rel => exact ⟨k + 1, vs1, by omega, by go_num, hM.congr (by
            rw [mkM_succ, List.append_assoc, show r - (k + 1) = r - k - 1 by omega]
            congr 2
            exact mkRow_congr fun j hj => if_pos hj), hb⟩
          case measure => simp [intOf]; omega
    · obtain rfl : k = r := by omega
      have hki : ¬ (k : Int) < (k : Int) := by omega
      go_wp2_with fail
      go_ret
      refine ⟨_, vs, rfl, ?_, TurnIn.of_below hb⟩
      rw [Nat.sub_self] at hM
      simpa using hM

theorem infoRowF : (Tryd.prog.info? 169).map (fun i => (i.zero, i.size, i.bytes)) = some (some (.slice none 0 0), 1, 24) := by kernel_rfl

theorem infoElemF : (Tryd.prog.info? 143).map (fun i => (i.zero, i.size, i.bytes)) = some (some (.int .u8 0), 1, 1) := by kernel_rfl

set_option maxRecDepth 100000 in
set_option maxHeartbeats 2000000 in
theorem newGridF (r c g : Nat) (lb : Array Value) (F : Ents) (w : World) (eg : ∀ args w, (callFunc g args).run Tryd.prog w = .ok (.enter g args) w)
    (hat : GivesAt Tryd.prog g lb r c F w) (hr : r ≤ 1000) (hc : c ≤ 1000) :
    Calls Tryd.prog 146 #[.int .i64 r, .int .i64 c, .func (.func g) #[] lb] w (RetM 143 169 w (mkM r c F)) := by
  obtain ⟨i0, hi0, hz0, hz1, hz2⟩ := info_parts infoRowF
  obtain ⟨i1, hi1, hy0, hy1, hy2⟩ := info_parts infoElemF
  have HAT := Lib.hid hat
  clear hat
  go_enter Tryd.func146, Tryd.ntmps146
  go_wp2_with (at_make; refine wpList_make_full _ rfl _ _ _ rfl w.heap.size _ i0 _ 1 Tryd.underlying140 hi0 hz0 hz1 _ _ _ _ r rfl rfl rfl rfl ?b2 ?b3 ?b4 ?_)
  case b2 => rw [hz2]; omega
  case b3 => unfold maxLen; omega
  case b4 => exact Nat.le_refl _
  intro w1 hown1 hg1
  rw [toList_madeCells_one] at hown1
  have hb1 : Below w.heap.size w w1 := below_of_grown hg1 (Nat.le_refl _) (by simp)
  have hM1 : OwnM 143 169 w1 w.heap.size w1.heap.size (.slice (some ⟨w.heap.size, 0, none⟩) r r) (mkM 0 c F ++ List.replicate (r - 0) []) (List.replicate r (.slice none 0 0)) := own_blank hown1
  clear hg1 hown1
  go_wp2_with fail
  go_loopw [14] (fun i wr => ∃ (k : Nat) (vs : List Value), k ≤ r ∧ i = .int .i64 k ∧ OwnM 143 169 wr w.heap.size wr.heap.size (.slice (some ⟨w.heap.size, 0, none⟩) r r) (mkM k c F ++ List.replicate (r - k) []) vs ∧ Below w.heap.size w wr)
    (fun i _ => r - (intOf i).toNat)
  case atStart => exact ⟨0, _, Nat.zero_le _, rfl, hM1, hb1⟩
  case round =>
    obtain ⟨k, vs, hk, rfl, hM, hb⟩ := hrel
    clear hM1 hb1
    by_cases hlt : k < r
    · have hki : (k : Int) < (r : Int) := by omega
      go_wp2_with (at_make; refine wpList_make_full _ rfl _ _ _ rfl wr.heap.size _ i1 _ 1 Tryd.underlying169 hi1 hy0 hy1 _ _ _ _ c rfl rfl rfl rfl ?d2 ?d3 ?d4 ?_)
      case d2 => rw [hy2]; omega
      case d3 => unfold maxLen; omega
      case d4 => exact Nat.le_refl _
      intro w2 hown2 hg2
      rw [toList_madeCells_one] at hown2
      have hs2 := hg2.size
      have k2 : TurnIn 0 0 wr w2 := TurnIn.of_grown hg2 (by simp)
      have hM2 := hM.keep k2 (by omega)
      have hb2 : Below w.heap.size w w2 := k2.base hb (by have := hb.size; omega) (by omega)
      obtain ⟨u0, hu0, _⟩ := hM2.at k (by simp; omega)
      have hco := hM2.cellAt hu0
      have hfr := hM2.frozenAt k
      have hrow : OwnBytes 143 w2 wr.heap.size w2.heap.size (.slice (some ⟨wr.heap.size, 0, none⟩) c c) (mkRow c fun j => if j < 0 then F k j else 0) := by
        refine OwnBytes.of_made ?_
        rw [bys_zero c _ (fun j _ => if_neg (by omega))]
        simpa using hown2
      have hM3 := (hM2.put (k := k) (by simp [mkM]; omega) (by simp; omega) hrow (by omega) (by have := hb.size; omega) hs2).congr (L' := mkM k c F ++ (mkRow c fun j => if j < 0 then F k j else 0) :: List.replicate (r - k - 1) []) (by
        have e : List.replicate (r - k) ([] : List UInt8) = [] :: List.replicate (r - k - 1) [] := by
          rw [← List.replicate_succ]; congr 1; omega
        rw [e, set_mid _ _ _ _ _ (mkM_length k c F)])
      have hvs : (vs.set k (.slice (some ⟨wr.heap.size, 0, none⟩) c c))[k]? = some (.slice (some ⟨wr.heap.size, 0, none⟩) c c) := by
        have := (List.getElem?_eq_some_iff.1 hu0).1
        simp [this]
      have HVS := Lib.hid hvs
      have hb3 : Below w.heap.size w (w2.setCell ⟨w.heap.size, k, none⟩ (.slice (some ⟨wr.heap.size, 0, none⟩) c c)) := hb2.setCell (Nat.le_refl _) _
      have hc3 := hM3.cellAt hvs
      have hwr : w.heap.size ≤ wr.heap.size := hb.size
      clear hrow hM2 hown2 hg2 hb2 hM hb hvs k2
      generalize wr.heap.size = B at *
      generalize vs.set k (.slice (some ⟨B, 0, none⟩) c c) = vs1 at *
      go_wp2_with fail
      go_loopw [27] (fun i wq => ∃ m : Nat, m ≤ c ∧ i = .int .i64 m ∧ OwnM 143 169 wq w.heap.size wq.heap.size (.slice (some ⟨w.heap.size, 0, none⟩) r r) (mkM k c F ++ (mkRow c fun j => if j < m then F k j else 0) :: List.replicate (r - k - 1) []) vs1 ∧ Below w.heap.size w wq)
        (fun i _ => c - (intOf i).toNat)
      case atStart => exact ⟨0, Nat.zero_le _, rfl, by simpa using hM3, hb3⟩
      case round =>
        obtain ⟨m, hm, rfl, hM, hb⟩ := hrel
        clear hM3 hb3 hc3 hfr hco
        by_cases hlm : m < c
        · have hmi : (m : Int) < (c : Int) := by omega
          have hco := hM.cellAt HVS.out
          have hrow := hM.rows k _ HVS.out
          rw [getD_mid _ _ _ _ _ (mkM_length k c F)] at hrow
          have hcx := hrow.cellAt (k := m) (by rw [mkRow_length]; exact hlm)
          have hfr := hrow.frozenAt m
          have hst := fun q => ((hM.drewN q).store (j := m) (x := F k m) (k := k) (by rw [List.length_append, mkM_length, List.length_cons]; omega) HVS.out).congr (L' := mkM k c F ++ (mkRow c fun j => if j < m + 1 then F k j else 0) :: List.replicate (r - k - 1) []) (by
            rw [getD_mid _ _ _ _ _ (mkM_length k c F), set_mid _ _ _ _ _ (mkM_length k c F), mkRow_set]
            congr 2
            apply mkRow_congr
            intro j hj
            by_cases e : j = m
            · subst e; simp
            · rw [if_neg e]
              by_cases h2 : j < m
              · rw [if_pos h2, if_pos (by omega)]
              · rw [if_neg h2, if_neg (by omega)])
          have hcall := fun W (hW : Below w.heap.size w W) => HAT.out W k m hW hlt hlm
          have HST := Lib.hid hst
          have HCALL := Lib.hid hcall
          have hne : w.heap.size ≠ B := fun e => (hM.apart k _ B HVS.out rfl).1 (by rw [e]; rfl)
          have hne' : B ≠ w.heap.size := fun e => hne e.symm
          clear hcall hst
          go_wp2_with fail
          go_region_held3 (fun w' => w'.cell? ⟨w.heap.size, k, none⟩ = some (.slice (some ⟨B, 0, none⟩) c c))
            (first | go_keep)
            ((go_at_fn g; refine (HCALL.out _ (by first | assumption | exact below_drewN hb _)).mono ?_; rintro e w' ⟨rfl, q, rfl⟩))
          go_wp2_with fail
          go_roundw
          case rel => exact ⟨m + 1, by omega, by go_num, by simpa using HST.out (1 + q), (below_drewN hb _).setCell hwr _⟩
          case measure => simp [intOf]; omega
        · obtain rfl : m = c := by omega
          have hmi : ¬ (m : Int) < (m : Int) := by omega
          go_wp2_with fail
          go_roundw
          case rel => exact ⟨k + 1, vs1, by omega, by go_num, hM.congr (by
            rw [mkM_succ, List.append_assoc, show r - (k + 1) = r - k - 1 by omega]
            congr 2
            exact mkRow_congr fun j hj => if_pos hj), hb⟩
          case measure => simp [intOf]; omega
    · obtain rfl : k = r := by omega
      have hki : ¬ (k : Int) < (k : Int) := by omega
      go_wp2_with fail
      go_ret
      refine ⟨_, vs, rfl, ?_, TurnIn.of_below hb⟩
      rw [Nat.sub_self] at hM
      simpa using hM

end Go.Proofs.YtfglkgeeelapgaaDoor
