/- Joined texts: NewGrid, Conv, Turned, FieldWalks, FieldWalksB, Good, MatI. -/
import Derived.Test.YtjgmegfbfjmnfaaDoorProg
import Derived.Deep.QuietTactic
import Derived.BigQuiet
import Derived.Deep.RegionHeld3
import Derived.Shelf.Abstract
import Derived.Test.YtjgmegfbfjmnfaaDoorBd02
import Derived.WalkKit
import Derived.WalkSpells
import Derived.WalkLawsBesides
import Derived.Lib.Hide
set_option linter.unusedSimpArgs false
set_option linter.unusedVariables false
/- newGrid: rows of a new grid, entry by entry, by whatever function value. -/
namespace G294
open Go Go.RowKit
/-- the function value g with what it captured hands back F i j at i, j; it may draw; it turns and lays nothing -/
def GivesAt (P : Program) (g : Nat) (lb : Array Value) (r c : Nat) (F : Ents) (w : World) : Prop :=
  ∀ (W : World) (i j : Nat), Below w.heap.size w W → i < r → j < c → Calls P g (#[.int .i64 i, .int .i64 j] ++ lb) W fun e w' => e = .returned (.int .u8 ((F i j).toNat : Int)) ∧ ∃ q, w' = W.drewN q
theorem GivesAt.later {P : Program} {g : Nat} {lb : Array Value} {r c : Nat} {F : Ents} {w W : World} (h : GivesAt P g lb r c F w) (hb : Below w.heap.size w W) : GivesAt P g lb r c F W :=
  fun W' i j hb' hi hj => h W' i j (hb.trans (hb'.mono hb.size)) hi hj
theorem getD_rep (n i : Nat) : (List.replicate n ([] : List UInt8)).getD i [] = [] := by
  simp only [List.getD, List.getElem?_replicate]; split <;> rfl
theorem own_blank {E EE : TypeId} {w w1 : World} {r c : Nat} {F : Ents} {v : Value} (h : w1.ownsRow w.heap.size EE 1 v r (List.replicate r (.slice none 0 0))) :
    OwnM E EE w1 w.heap.size w1.heap.size v (mkM 0 c F ++ List.replicate (r - 0) []) (List.replicate r (.slice none 0 0)) := by
  refine ⟨by simpa using h, Nat.le_refl _, fun g e => (h.lt g e).2, ?_, ?_⟩
  · intro i u hu
    have : u = .slice none 0 0 := by
      rw [List.getElem?_replicate] at hu; split at hu <;> simp_all
    subst this
    have e : (mkM 0 c F ++ List.replicate (r - 0) []).getD i [] = [] := by
      have e0 : mkM 0 c F = [] := rfl
      rw [e0, List.nil_append]; exact getD_rep _ _
    rw [e]
    exact OwnBytes.nil _ _ _
  · intro i u g hu hg
    have : u = .slice none 0 0 := by
      rw [List.getElem?_replicate] at hu; split at hu <;> simp_all
    subst this
    simp [Value.ownBlock] at hg
theorem mkM_succ (k c : Nat) (F : Ents) : mkM (k + 1) c F = mkM k c F ++ [mkRow c (F k)] := by simp [mkM, List.range_succ]
theorem set_mid {α : Type} (l m : List α) (x y : α) (k : Nat) (hk : l.length = k) : (l ++ x :: m).set k y = l ++ y :: m := by
  subst hk; simp
theorem getD_mid {α : Type} (l m : List α) (x d : α) (k : Nat) (hk : l.length = k) : (l ++ x :: m).getD k d = x := by
  subst hk; simp [List.getD]
end G294
namespace Go.Proofs.YtjgmegfbfjmnfaaDoor
open Go.RowKit G294

theorem infoRowB : (Tryd.prog.info? 22).map (fun i => (i.zero, i.size, i.bytes)) = some (some (.slice none 0 0), 1, 24) := by kernel_rfl

theorem infoElemB : (Tryd.prog.info? 5).map (fun i => (i.zero, i.size, i.bytes)) = some (some (.int .u8 0), 1, 1) := by kernel_rfl

set_option maxRecDepth 100000 in
set_option maxHeartbeats 2000000 in
theorem newGridB (r c g : Nat) (lb : Array Value) (F : Ents) (w : World) (eg : ∀ args w, (callFunc g args).run Tryd.prog w = .ok (.enter g args) w)
    (hat : GivesAt Tryd.prog g lb r c F w) (hr : r ≤ 1000) (hc : c ≤ 1000) :
    Calls Tryd.prog 55 #[.int .i64 r, .int .i64 c, .func (.func g) #[] lb] w (RetM 5 22 w (mkM r c F)) := by
  obtain ⟨i0, hi0, hz0, hz1, hz2⟩ := info_parts infoRowB
  obtain ⟨i1, hi1, hy0, hy1, hy2⟩ := info_parts infoElemB
  have HAT := Lib.hid hat
  clear hat
  go_enter Tryd.func55, Tryd.ntmps55
  go_wp2_with (at_make; refine wpList_make_full _ rfl _ _ _ rfl w.heap.size _ i0 _ 1 Tryd.underlying93 hi0 hz0 hz1 _ _ _ _ r rfl rfl rfl rfl ?b2 ?b3 ?b4 ?_)
  case b2 => rw [hz2]; omega
  case b3 => unfold maxLen; omega
  case b4 => exact Nat.le_refl _
  intro w1 hown1 hg1
  rw [toList_madeCells_one] at hown1
  have hb1 : Below w.heap.size w w1 := below_of_grown hg1 (Nat.le_refl _) (by simp)
  have hM1 : OwnM 5 22 w1 w.heap.size w1.heap.size (.slice (some ⟨w.heap.size, 0, none⟩) r r) (mkM 0 c F ++ List.replicate (r - 0) []) (List.replicate r (.slice none 0 0)) := own_blank hown1
  clear hg1 hown1
  go_wp2_with fail
  go_loopw [14] (fun i wr => ∃ (k : Nat) (vs : List Value), k ≤ r ∧ i = .int .i64 k ∧ OwnM 5 22 wr w.heap.size wr.heap.size (.slice (some ⟨w.heap.size, 0, none⟩) r r) (mkM k c F ++ List.replicate (r - k) []) vs ∧ Below w.heap.size w wr)
    (fun i _ => r - (intOf i).toNat)
  case atStart => exact ⟨0, _, Nat.zero_le _, rfl, hM1, hb1⟩
  case round =>
    obtain ⟨k, vs, hk, rfl, hM, hb⟩ := hrel
    clear hM1 hb1
    by_cases hlt : k < r
    · have hki : (k : Int) < (r : Int) := by omega
      go_wp2_with (at_make; refine wpList_make_full _ rfl _ _ _ rfl wr.heap.size _ i1 _ 1 Tryd.underlying22 hi1 hy0 hy1 _ _ _ _ c rfl rfl rfl rfl ?d2 ?d3 ?d4 ?_)
      case d2 => rw [hy2]; omega
      case d3 => unfold maxLen; omega
      case d4 => exact Nat.le_refl _
      intro w2 hown2 hg2
      rw [toList_madeCells_one] at hown2
      have hs2 := hg2.size
      have k2 : TurnIn 0 0 wr w2 := TurnIn.of_grown hg2 (by simp)
      have hM2 := hM.keep k2 (by omega)
      have hb2 : Below w.heap.size w w2 := k2.base hb (by have := hb.size; omega) (by omega)
      obtain ⟨u0, hu0, _⟩ := hM2.at k (by simp; omega)
      have hco := hM2.cellAt hu0
      have hfr := hM2.frozenAt k
      have hrow : OwnBytes 5 w2 wr.heap.size w2.heap.size (.slice (some ⟨wr.heap.size, 0, none⟩) c c) (mkRow c fun j => if j < 0 then F k j else 0) := by
        refine OwnBytes.of_made ?_
        rw [bys_zero c _ (fun j _ => if_neg (by omega))]
        simpa using hown2
      have hM3 := (hM2.put (k := k) (by simp [mkM]; omega) (by simp; omega) hrow (by omega) (by have := hb.size; omega) hs2).congr (L' := mkM k c F ++ (mkRow c fun j => if j < 0 then F k j else 0) :: List.replicate (r - k - 1) []) (by
        have e : List.replicate (r - k) ([] : List UInt8) = [] :: List.replicate (r - k - 1) [] := by
          rw [← List.replicate_succ]; congr 1; omega
        rw [e, set_mid _ _ _ _ _ (mkM_length k c F)])
      have hvs : (vs.set k (.slice (some ⟨wr.heap.size, 0, none⟩) c c))[k]? = some (.slice (some ⟨wr.heap.size, 0, none⟩) c c) := by
        have := (List.getElem?_eq_some_iff.1 hu0).1
        simp [this]
      have HVS := Lib.hid hvs
      have hb3 : Below w.heap.size w (w2.setCell ⟨w.heap.size, k, none⟩ (.slice (some ⟨wr.heap.size, 0, none⟩) c c)) := hb2.setCell (Nat.le_refl _) _
      have hc3 := hM3.cellAt hvs
      have hwr : w.heap.size ≤ wr.heap.size := hb.size
      clear hrow hM2 hown2 hg2 hb2 hM hb hvs k2
      generalize wr.heap.size = B at *
      generalize vs.set k (.slice (some ⟨B, 0, none⟩) c c) = vs1 at *
      go_wp2_with fail
      go_loopw [27] (fun i wq => ∃ m : Nat, m ≤ c ∧ i = .int .i64 m ∧ OwnM 5 22 wq w.heap.size wq.heap.size (.slice (some ⟨w.heap.size, 0, none⟩) r r) (mkM k c F ++ (mkRow c fun j => if j < m then F k j else 0) :: List.replicate (r - k - 1) []) vs1 ∧ Below w.heap.size w wq)
        (fun i _ => c - (intOf i).toNat)
      case atStart => exact ⟨0, Nat.zero_le _, rfl, by simpa using hM3, hb3⟩
      case round =>
        obtain ⟨m, hm, rfl, hM, hb⟩ := hrel
        clear hM3 hb3 hc3 hfr hco
        by_cases hlm : m < c
        · have hmi : (m : Int) < (c : Int) := by omega
          have hco := hM.cellAt HVS.out
          have hrow := hM.rows k _ HVS.out
          rw [getD_mid _ _ _ _ _ (mkM_length k c F)] at hrow
          have hcx := hrow.cellAt (k := m) (by rw [mkRow_length]; exact hlm)
          have hfr := hrow.frozenAt m
          have hst := fun q => ((hM.drewN q).store (j := m) (x := F k m) (k := k) (by rw [List.length_append, mkM_length, List.length_cons]; omega) HVS.out).congr (L' := mkM k c F ++ (mkRow c fun j => if j < m + 1 then F k j else 0) :: List.replicate (r - k - 1) []) (by
            rw [getD_mid _ _ _ _ _ (mkM_length k c F), set_mid _ _ _ _ _ (mkM_length k c F), mkRow_set]
            congr 2
            apply mkRow_congr
            intro j hj
            by_cases e : j = m
            · subst e; simp
            · rw [if_neg e]
              by_cases h2 : j < m
              · rw [if_pos h2, if_pos (by omega)]
              · rw [if_neg h2, if_neg (by omega)])
          have hcall := fun W (hW : Below w.heap.size w W) => HAT.out W k m hW hlt hlm
          have HST := Lib.hid hst
          have HCALL := Lib.hid hcall
          have hne : w.heap.size ≠ B := fun e => (hM.apart k _ B HVS.out rfl).1 (by rw [e]; rfl)
          have hne' : B ≠ w.heap.size := fun e => hne e.symm
          clear hcall hst
          go_wp2_with fail
          go_region_held3 (fun w' => w'.cell? ⟨w.heap.size, k, none⟩ = some (.slice (some ⟨B, 0, none⟩) c c))
            (first | go_keep)
            ((go_at_fn g; refine (HCALL.out _ (by first | assumption | exact below_drewN hb _)).mono ?_; rintro e w' ⟨rfl, q, rfl⟩))
          go_wp2_with fail
          go_roundw
          case rel => exact ⟨m + 1, by omega, by go_num, by simpa using HST.out (1 + q), (below_drewN hb _).setCell hwr _⟩
          case measure => simp [intOf]; omega
        · obtain rfl : m = c := by omega
          have hmi : ¬ (m : Int) < (m : Int) := by omega
          go_wp2_with fail
          go_roundw
          case rel => exact ⟨k + 1, vs1, by omega, by go_num, hM.congr (by
            rw [mkM_succ, List.append_assoc, show r - (k + 1) = r - k - 1 by omega]
            congr 2
            exact mkRow_congr fun j hj => if_pos hj), hb⟩
          case measure => simp [intOf]; omega
    · obtain rfl : k = r := by omega
      have hki : ¬ (k : Int) < (k : Int) := by omega
      go_wp2_with fail
      go_ret
      refine ⟨_, vs, rfl, ?_, TurnIn.of_below hb⟩
      rw [Nat.sub_self] at hM
      simpa using hM

theorem infoRowF : (Tryd.prog.info? 155).map (fun i => (i.zero, i.size, i.bytes)) = some (some (.slice none 0 0), 1, 24) := by kernel_rfl

theorem infoElemF : (Tryd.prog.info? 144).map (fun i => (i.zero, i.size, i.bytes)) = some (some (.int .u8 0), 1, 1) := by kernel_rfl

set_option maxRecDepth 100000 in
set_option maxHeartbeats 2000000 in
theorem newGridF (r c g : Nat) (lb : Array Value) (F : Ents) (w : World) (eg : ∀ args w, (callFunc g args).run Tryd.prog w = .ok (.enter g args) w)
    (hat : GivesAt Tryd.prog g lb r c F w) (hr : r ≤ 1000) (hc : c ≤ 1000) :
    Calls Tryd.prog 122 #[.int .i64 r, .int .i64 c, .func (.func g) #[] lb] w (RetM 144 155 w (mkM r c F)) := by
  obtain ⟨i0, hi0, hz0, hz1, hz2⟩ := info_parts infoRowF
  obtain ⟨i1, hi1, hy0, hy1, hy2⟩ := info_parts infoElemF
  have HAT := Lib.hid hat
  clear hat
  go_enter Tryd.func122, Tryd.ntmps122
  go_wp2_with (at_make; refine wpList_make_full _ rfl _ _ _ rfl w.heap.size _ i0 _ 1 Tryd.underlying141 hi0 hz0 hz1 _ _ _ _ r rfl rfl rfl rfl ?b2 ?b3 ?b4 ?_)
  case b2 => rw [hz2]; omega
  case b3 => unfold maxLen; omega
  case b4 => exact Nat.le_refl _
  intro w1 hown1 hg1
  rw [toList_madeCells_one] at hown1
  have hb1 : Below w.heap.size w w1 := below_of_grown hg1 (Nat.le_refl _) (by simp)
  have hM1 : OwnM 144 155 w1 w.heap.size w1.heap.size (.slice (some ⟨w.heap.size, 0, none⟩) r r) (mkM 0 c F ++ List.replicate (r - 0) []) (List.replicate r (.slice none 0 0)) := own_blank hown1
  clear hg1 hown1
  go_wp2_with fail
  go_loopw [14] (fun i wr => ∃ (k : Nat) (vs : List Value), k ≤ r ∧ i = .int .i64 k ∧ OwnM 144 155 wr w.heap.size wr.heap.size (.slice (some ⟨w.heap.size, 0, none⟩) r r) (mkM k c F ++ List.replicate (r - k) []) vs ∧ Below w.heap.size w wr)
    (fun i _ => r - (intOf i).toNat)
  case atStart => exact ⟨0, _, Nat.zero_le _, rfl, hM1, hb1⟩
  case round =>
    obtain ⟨k, vs, hk, rfl, hM, hb⟩ := hrel
    clear hM1 hb1
    by_cases hlt : k < r
    · have hki : (k : Int) < (r : Int) := by omega
      go_wp2_with (at_make; refine wpList_make_full _ rfl _ _ _ rfl wr.heap.size _ i1 _ 1 Tryd.underlying155 hi1 hy0 hy1 _ _ _ _ c rfl rfl rfl rfl ?d2 ?d3 ?d4 ?_)
      case d2 => rw [hy2]; omega
      case d3 => unfold maxLen; omega
      case d4 => exact Nat.le_refl _
      intro w2 hown2 hg2
      rw [toList_madeCells_one] at hown2
      have hs2 := hg2.size
      have k2 : TurnIn 0 0 wr w2 := TurnIn.of_grown hg2 (by simp)
      have hM2 := hM.keep k2 (by omega)
      have hb2 : Below w.heap.size w w2 := k2.base hb (by have := hb.size; omega) (by omega)
      obtain ⟨u0, hu0, _⟩ := hM2.at k (by simp; omega)
      have hco := hM2.cellAt hu0
      have hfr := hM2.frozenAt k
      have hrow : OwnBytes 144 w2 wr.heap.size w2.heap.size (.slice (some ⟨wr.heap.size, 0, none⟩) c c) (mkRow c fun j => if j < 0 then F k j else 0) := by
        refine OwnBytes.of_made ?_
        rw [bys_zero c _ (fun j _ => if_neg (by omega))]
        simpa using hown2
      have hM3 := (hM2.put (k := k) (by simp [mkM]; omega) (by simp; omega) hrow (by omega) (by have := hb.size; omega) hs2).congr (L' := mkM k c F ++ (mkRow c fun j => if j < 0 then F k j else 0) :: List.replicate (r - k - 1) []) (by
        have e : List.replicate (r - k) ([] : List UInt8) = [] :: List.replicate (r - k - 1) [] := by
          rw [← List.replicate_succ]; congr 1; omega
        rw [e, set_mid _ _ _ _ _ (mkM_length k c F)])
      have hvs : (vs.set k (.slice (some ⟨wr.heap.size, 0, none⟩) c c))[k]? = some (.slice (some ⟨wr.heap.size, 0, none⟩) c c) := by
        have := (List.getElem?_eq_some_iff.1 hu0).1
        simp [this]
      have HVS := Lib.hid hvs
      have hb3 : Below w.heap.size w (w2.setCell ⟨w.heap.size, k, none⟩ (.slice (some ⟨wr.heap.size, 0, none⟩) c c)) := hb2.setCell (Nat.le_refl _) _
      have hc3 := hM3.cellAt hvs
      have hwr : w.heap.size ≤ wr.heap.size := hb.size
      clear hrow hM2 hown2 hg2 hb2 hM hb hvs k2
      generalize wr.heap.size = B at *
      generalize vs.set k (.slice (some ⟨B, 0, none⟩) c c) = vs1 at *
      go_wp2_with fail
      go_loopw [27] (fun i wq => ∃ m : Nat, m ≤ c ∧ i = .int .i64 m ∧ OwnM 144 155 wq w.heap.size wq.heap.size (.slice (some ⟨w.heap.size, 0, none⟩) r r) (mkM k c F ++ (mkRow c fun j => if j < m then F k j else 0) :: List.replicate (r - k - 1) []) vs1 ∧ Below w.heap.size w wq)
        (fun i _ => c - (intOf i).toNat)
      case atStart => exact ⟨0, Nat.zero_le _, rfl, by simpa using hM3, hb3⟩
      case round =>
        obtain ⟨m, hm, rfl, hM, hb⟩ := hrel
        clear hM3 hb3 hc3 hfr hco
        by_cases hlm : m < c
        · have hmi : (m : Int) < (c : Int) := by omega
          have hco := hM.cellAt HVS.out
          have hrow := hM.rows k _ HVS.out
          rw [getD_mid _ _ _ _ _ (mkM_length k c F)] at hrow
          have hcx := hrow.cellAt (k := m) (by rw [mkRow_length]; exact hlm)
          have hfr := hrow.frozenAt m
          have hst := fun q => ((hM.drewN q).store (j := m) (x := F k m) (k := k) (by rw [List.length_append, mkM_length, List.length_cons]; omega) HVS.out).congr (L' := mkM k c F ++ (mkRow c fun j => if j < m + 1 then F k j else 0) :: List.replicate (r - k - 1) []) (by
            rw [getD_mid _ _ _ _ _ (mkM_length k c F), set_mid _ _ _ _ _ (mkM_length k c F), mkRow_set]
            congr 2
            apply mkRow_congr
            intro j hj
            by_cases e : j = m
            · subst e; simp
            · rw [if_neg e]
              by_cases h2 : j < m
              · rw [if_pos h2, if_pos (by omega)]
              · rw [if_neg h2, if_neg (by omega)])
          have hcall := fun W (hW : Below w.heap.size w W) => HAT.out W k m hW hlt hlm
          have HST := Lib.hid hst
          have HCALL := Lib.hid hcall
          have hne : w.heap.size ≠ B := fun e => (hM.apart k _ B HVS.out rfl).1 (by rw [e]; rfl)
          have hne' : B ≠ w.heap.size := fun e => hne e.symm
          clear hcall hst
          go_wp2_with fail
          go_region_held3 (fun w' => w'.cell? ⟨w.heap.size, k, none⟩ = some (.slice (some ⟨B, 0, none⟩) c c))
            (first | go_keep)
            ((go_at_fn g; refine (HCALL.out _ (by first | assumption | exact below_drewN hb _)).mono ?_; rintro e w' ⟨rfl, q, rfl⟩))
          go_wp2_with fail
          go_roundw
          case rel => exact ⟨m + 1, by omega, by go_num, by simpa using HST.out (1 + q), (below_drewN hb _).setCell hwr _⟩
          case measure => simp [intOf]; omega
        · obtain rfl : m = c := by omega
          have hmi : ¬ (m : Int) < (m : Int) := by omega
          go_wp2_with fail
          go_roundw
          case rel => exact ⟨k + 1, vs1, by omega, by go_num, hM.congr (by
            rw [mkM_succ, List.append_assoc, show r - (k + 1) = r - k - 1 by omega]
            congr 2
            exact mkRow_congr fun j hj => if_pos hj), hb⟩
          case measure => simp [intOf]; omega
    · obtain rfl : k = r := by omega
      have hki : ¬ (k : Int) < (k : Int) := by omega
      go_wp2_with fail
      go_ret
      refine ⟨_, vs, rfl, ?_, TurnIn.of_below hb⟩
      rw [Nat.sub_self] at hM
      simpa using hM

end Go.Proofs.YtjgmegfbfjmnfaaDoor

/- identityGrid and converted, on bytes and on field bytes. -/
namespace Go.Proofs.YtjgmegfbfjmnfaaDoor
open Go.RowKit G294

set_option maxHeartbeats 400000 in
theorem toB (x : UInt8) (w : World) : Calls Tryd.prog 125 #[.int .u8 (x.toNat : Int)] w fun e w' => e = .returned (.int .u8 (x.toNat : Int)) ∧ w = w' := by
  go_enter Tryd.func125, Tryd.ntmps125
  go_wp2_with fail
  go_ret
  exact ⟨rfl, rfl⟩

set_option maxHeartbeats 1000000 in
theorem convertedAtB (r c Bt Bg : Nat) (F : Ents) (v : Value) (w : World) (hBt : Bt < w.heap.size) (hBg : Bg < w.heap.size) (hvt : w.cell? ⟨Bt, 0, none⟩ = some (.func (.func 125) #[] #[])) (hv : w.cell? ⟨Bg, 0, none⟩ = some v) (hs : SeenM w v (mkM r c F)) :
    GivesAt Tryd.prog 133 #[.pointer (some ⟨Bt, 0, none⟩), .pointer (some ⟨Bg, 0, none⟩)] r c F w := by
  intro W i j hb hi hj
  have hv' := (hb.cell (p := ⟨Bg, 0, none⟩) hBg).trans hv
  have hvt' := (hb.cell (p := ⟨Bt, 0, none⟩) hBt).trans hvt
  obtain ⟨bb, off, cp, b', off', c', rfl, hl1, h1, h2, h3, hl2, h4⟩ := (hs.below hb).cellF i j hi hj
  unfold maxLen at hl1 hl2
  have hi0 : (0 : Int) ≤ (i : Int) := Int.natCast_nonneg _
  have hj0 : (0 : Int) ≤ (j : Int) := Int.natCast_nonneg _
  have hi' : (i : Int) < (r : Int) := by omega
  have hj' : (j : Int) < (c : Int) := by omega
  clear hv hs hvt
  go_enter Tryd.func133, Tryd.ntmps133
  go_wp2_with fail
  go_quiet ((go_at_call 125; exact quietly (toB _ _)))
  go_wp2_with fail
  go_ret
  exact ⟨rfl, _, rfl⟩

set_option maxHeartbeats 1000000 in
theorem convertedB (r c : Nat) (F : Ents) (v : Value) (w : World) (hs : SeenM w v (mkM r c F)) (hr : 1 ≤ r) (hr2 : r ≤ 1000) (hc : c ≤ 1000) :
    Calls Tryd.prog 124 #[v, .func (.func 125) #[] #[]] w (RetM 144 155 w (mkM r c F)) := by
  have hb0 : Below w.heap.size w (w.alloc (.cells #[v] 93)) := (Below.refl _ _).alloc (Nat.le_refl _) _
  have hb1 : Below w.heap.size w ((w.alloc (.cells #[v] 93)).alloc (.cells #[.func (.func 125) #[] #[]] 158)) := hb0.alloc (by simp) _
  have hG := convertedAtB r c (w.heap.size + 1) w.heap.size F v ((w.alloc (.cells #[v] 93)).alloc (.cells #[.func (.func 125) #[] #[]] 158)) (by simp) (by simp; omega) (by simp) (by simp) (hs.below hb1)
  have HG := Lib.hid hG
  obtain ⟨bb, off, cp, A, c', rfl, hl1, h1, h2, hl2, h3⟩ := hs.rowF 0 (by omega)
  have eg := enters_of Tryd.func133 (by kernel_rfl) rfl
  have HB1 := Lib.hid hb1
  unfold maxLen at hl1 hl2
  rw [Nat.add_zero] at h2
  have h0 : 0 < r := hr
  have hne : bb ≠ w.heap.size := by omega
  have hne' : w.heap.size ≠ bb := by omega
  have hq1 : ((w.alloc (.cells #[.slice (some ⟨bb, off, none⟩) r cp] 93)).alloc (.cells #[.func (.func 125) #[] #[]] 158)).cell? ⟨w.heap.size, 0, none⟩ = some (.slice (some ⟨bb, off, none⟩) r cp) := by simp
  have hq2 : ((w.alloc (.cells #[.slice (some ⟨bb, off, none⟩) r cp] 93)).alloc (.cells #[.func (.func 125) #[] #[]] 158)).cell? ⟨bb, off, none⟩ = some (.slice A c c') := (HB1.out.cell (p := ⟨bb, off, none⟩) h1).trans h2
  have hsz : w.heap.size < ((w.alloc (.cells #[.slice (some ⟨bb, off, none⟩) r cp] 93)).alloc (.cells #[.func (.func 125) #[] #[]] 158)).heap.size := by simp; omega
  clear hG hb1 hb0
  go_enter Tryd.func124, Tryd.ntmps124
  go_wp2_with fail
  generalize ((w.alloc (.cells #[.slice (some ⟨bb, off, none⟩) r cp] 93)).alloc (.cells #[.func (.func 125) #[] #[]] 158)) = w1 at *
  go_region_held3 (fun w' => w'.cell? ⟨w.heap.size, 0, none⟩ = some (.slice (some ⟨bb, off, none⟩) r cp) ∧ w'.cell? ⟨bb, off, none⟩ = some (.slice A c c'))
    (first | exact ⟨hq1, hq2⟩ | exact ⟨q1, q2⟩)
    ((go_at_call 122; refine (newGridF r c _ _ _ w1.drew eg (HG.out.later (Below.refl _ _).drew) (by omega) (by omega)).mono ?_; rintro e w' ⟨v', vs', rfl, hM, ht⟩; have q1 := (ht.to_below.cell (p := ⟨w.heap.size, 0, none⟩) hsz).trans hq1; have q2 := (ht.to_below.cell (p := ⟨bb, off, none⟩) (Nat.lt_trans h1 hsz)).trans hq2))
  go_wp2_with fail
  go_ret
  exact RetM.base ⟨_, _, rfl, hM, ht⟩ HB1.out.drew

set_option maxHeartbeats 1000000 in
theorem identAtF (r c B : Nat) (w : World) (hB : B < w.heap.size) (hv : w.cell? ⟨B, 0, none⟩ = some (.int .u8 1)) :
    GivesAt Tryd.prog 126 #[.pointer (some ⟨B, 0, none⟩)] r c idF w := by
  intro W i j hb hi hj
  have hv' := (hb.cell (p := ⟨B, 0, none⟩) hB).trans hv
  clear hv
  by_cases he : i = j
  · have hbb : ((i : Int) == (j : Int)) = true := by simp [he]
    have HF : Hid (idF i j = 1) := by show idF i j = 1; simp [idF, he]
    clear he
    go_enter Tryd.func126, Tryd.ntmps126
    go_wp2_with fail
    go_ret
    exact ⟨by rw [HF.out]; rfl, 0, rfl⟩
  · have hbb : ((i : Int) == (j : Int)) = false := by simp; omega
    have HF : Hid (idF i j = 0) := by show idF i j = 0; simp [idF, he]
    clear he
    go_enter Tryd.func126, Tryd.ntmps126
    go_wp2_with fail
    go_ret
    exact ⟨by rw [HF.out]; rfl, 0, rfl⟩

set_option maxHeartbeats 1000000 in
theorem identityGridF (n : Nat) (w : World) (hn : n ≤ 1000) :
    Calls Tryd.prog 113 #[.int .i64 n, .int .u8 1] w (RetM 144 155 w (mkM n n idF)) := by
  have hb1 : Below w.heap.size w (w.alloc (.cells #[.int .u8 1] 144)) := (Below.refl _ _).alloc (Nat.le_refl _) _
  have HG := Lib.hid (identAtF n n w.heap.size (w.alloc (.cells #[.int .u8 1] 144)) (by simp) (by simp))
  have eg := enters_of Tryd.func126 (by kernel_rfl) rfl
  have HB1 := Lib.hid hb1
  clear hb1
  go_enter Tryd.func113, Tryd.ntmps113
  go_wp2_with fail
  refine (newGridF n n _ _ _ _ eg HG.out hn hn).mono ?_
  rintro e w' ⟨v', vs', rfl, hM, ht⟩
  go_wp2_with fail
  go_ret
  exact RetM.base ⟨_, _, rfl, hM, ht⟩ HB1.out

set_option maxHeartbeats 400000 in
theorem toF (x : UInt8) (w : World) : Calls Tryd.prog 128 #[.int .u8 (x.toNat : Int)] w fun e w' => e = .returned (.int .u8 (x.toNat : Int)) ∧ w = w' := by
  go_enter Tryd.func128, Tryd.ntmps128
  go_wp2_with fail
  go_ret
  exact ⟨rfl, rfl⟩

set_option maxHeartbeats 1000000 in
theorem convertedAtF (r c Bt Bg : Nat) (F : Ents) (v : Value) (w : World) (hBt : Bt < w.heap.size) (hBg : Bg < w.heap.size) (hvt : w.cell? ⟨Bt, 0, none⟩ = some (.func (.func 128) #[] #[])) (hv : w.cell? ⟨Bg, 0, none⟩ = some v) (hs : SeenM w v (mkM r c F)) :
    GivesAt Tryd.prog 134 #[.pointer (some ⟨Bt, 0, none⟩), .pointer (some ⟨Bg, 0, none⟩)] r c F w := by
  intro W i j hb hi hj
  have hv' := (hb.cell (p := ⟨Bg, 0, none⟩) hBg).trans hv
  have hvt' := (hb.cell (p := ⟨Bt, 0, none⟩) hBt).trans hvt
  obtain ⟨bb, off, cp, b', off', c', rfl, hl1, h1, h2, h3, hl2, h4⟩ := (hs.below hb).cellF i j hi hj
  unfold maxLen at hl1 hl2
  have hi0 : (0 : Int) ≤ (i : Int) := Int.natCast_nonneg _
  have hj0 : (0 : Int) ≤ (j : Int) := Int.natCast_nonneg _
  have hi' : (i : Int) < (r : Int) := by omega
  have hj' : (j : Int) < (c : Int) := by omega
  clear hv hs hvt
  go_enter Tryd.func134, Tryd.ntmps134
  go_wp2_with fail
  go_quiet ((go_at_call 128; exact quietly (toF _ _)))
  go_wp2_with fail
  go_ret
  exact ⟨rfl, _, rfl⟩

set_option maxHeartbeats 1000000 in
theorem convertedF (r c : Nat) (F : Ents) (v : Value) (w : World) (hs : SeenM w v (mkM r c F)) (hr : 1 ≤ r) (hr2 : r ≤ 1000) (hc : c ≤ 1000) :
    Calls Tryd.prog 127 #[v, .func (.func 128) #[] #[]] w (RetM 5 22 w (mkM r c F)) := by
  have hb0 : Below w.heap.size w (w.alloc (.cells #[v] 141)) := (Below.refl _ _).alloc (Nat.le_refl _) _
  have hb1 : Below w.heap.size w ((w.alloc (.cells #[v] 141)).alloc (.cells #[.func (.func 128) #[] #[]] 160)) := hb0.alloc (by simp) _
  have hG := convertedAtF r c (w.heap.size + 1) w.heap.size F v ((w.alloc (.cells #[v] 141)).alloc (.cells #[.func (.func 128) #[] #[]] 160)) (by simp) (by simp; omega) (by simp) (by simp) (hs.below hb1)
  have HG := Lib.hid hG
  obtain ⟨bb, off, cp, A, c', rfl, hl1, h1, h2, hl2, h3⟩ := hs.rowF 0 (by omega)
  have eg := enters_of Tryd.func134 (by kernel_rfl) rfl
  have HB1 := Lib.hid hb1
  unfold maxLen at hl1 hl2
  rw [Nat.add_zero] at h2
  have h0 : 0 < r := hr
  have hne : bb ≠ w.heap.size := by omega
  have hne' : w.heap.size ≠ bb := by omega
  have hq1 : ((w.alloc (.cells #[.slice (some ⟨bb, off, none⟩) r cp] 141)).alloc (.cells #[.func (.func 128) #[] #[]] 160)).cell? ⟨w.heap.size, 0, none⟩ = some (.slice (some ⟨bb, off, none⟩) r cp) := by simp
  have hq2 : ((w.alloc (.cells #[.slice (some ⟨bb, off, none⟩) r cp] 141)).alloc (.cells #[.func (.func 128) #[] #[]] 160)).cell? ⟨bb, off, none⟩ = some (.slice A c c') := (HB1.out.cell (p := ⟨bb, off, none⟩) h1).trans h2
  have hsz : w.heap.size < ((w.alloc (.cells #[.slice (some ⟨bb, off, none⟩) r cp] 141)).alloc (.cells #[.func (.func 128) #[] #[]] 160)).heap.size := by simp; omega
  clear hG hb1 hb0
  go_enter Tryd.func127, Tryd.ntmps127
  go_wp2_with fail
  generalize ((w.alloc (.cells #[.slice (some ⟨bb, off, none⟩) r cp] 141)).alloc (.cells #[.func (.func 128) #[] #[]] 160)) = w1 at *
  go_region_held3 (fun w' => w'.cell? ⟨w.heap.size, 0, none⟩ = some (.slice (some ⟨bb, off, none⟩) r cp) ∧ w'.cell? ⟨bb, off, none⟩ = some (.slice A c c'))
    (first | exact ⟨hq1, hq2⟩ | exact ⟨q1, q2⟩)
    ((go_at_call 55; refine (newGridB r c _ _ _ w1.drew eg (HG.out.later (Below.refl _ _).drew) (by omega) (by omega)).mono ?_; rintro e w' ⟨v', vs', rfl, hM, ht⟩; have q1 := (ht.to_below.cell (p := ⟨w.heap.size, 0, none⟩) hsz).trans hq1; have q2 := (ht.to_below.cell (p := ⟨bb, off, none⟩) (Nat.lt_trans h1 hsz)).trans hq2))
  go_wp2_with fail
  go_ret
  exact RetM.base ⟨_, _, rfl, hM, ht⟩ HB1.out.drew

end Go.Proofs.YtjgmegfbfjmnfaaDoor

/- turned and identityGrid, on bytes and on field bytes. -/
namespace Go.Proofs.YtjgmegfbfjmnfaaDoor
open Go.RowKit G294

end Go.Proofs.YtjgmegfbfjmnfaaDoor

/- Contracts of chapter 1's functions, the program's and the model's: what each call returns; the world is left as it was. -/
namespace Go.Proofs.YtjgmegfbfjmnfaaDoor
open Go.RowKit

/-- the table of remainders, as the program's text lays it -/
def Tab (w : World) : Prop := ∀ k, k < 7 → w.cell? ⟨0, k, none⟩ = some (.int .u8 (G294.tabN k : Nat))
theorem Tab.below {w w' : World} (h : Tab w) (hb : Below w.heap.size w w') (h0 : 0 < w.heap.size) : Tab w' := fun k hk => (hb.cell (p := ⟨0, k, none⟩) h0).trans (h k hk)
theorem ret_int {k : IntKind} {a b : Int} (h : a = b) : Ending.returned (.int k a) = .returned (.int k b) := by rw [h]

theorem and1_u8 (b : Nat) (hb : b < 256) (k : Nat) : bits BinOp.and IntKind.u8 ((b : Int) / 2 ^ k) 1 = ((G294.bit b k : Nat) : Int) := by
  have h1 : ((b : Int) / 2 ^ k) = ((b / 2 ^ k : Nat) : Int) := by simp
  have h2 : b / 2 ^ k < 256 := Nat.lt_of_le_of_lt (Nat.div_le_self _ _) hb
  rw [h1]
  have := u8_and_nat (b / 2 ^ k) 1 h2 (by omega)
  rw [show ((1 : Nat) : Int) = 1 from rfl] at this
  rw [this]; simp [G294.bit, Nat.and_one_is_mod]
theorem and1_u16 (b : Nat) (hb : b < 65536) (k : Nat) : bits BinOp.and IntKind.u16 ((b : Int) / 2 ^ k) 1 = ((G294.bit b k : Nat) : Int) := by
  have h1 : ((b : Int) / 2 ^ k) = ((b / 2 ^ k : Nat) : Int) := by simp
  have h2 : b / 2 ^ k < 65536 := Nat.lt_of_le_of_lt (Nat.div_le_self _ _) hb
  rw [h1]
  have := u16_and_nat (b / 2 ^ k) 1 h2 (by omega)
  rw [show ((1 : Nat) : Int) = 1 from rfl] at this
  rw [this]; simp [G294.bit, Nat.and_one_is_mod]
theorem test_bit {b k : Nat} {x : Bool} (e : (((G294.bit b k : Nat) : Int) == 1) = x) : (x = true ∧ G294.bit b k = 1) ∨ (x = false ∧ ¬ G294.bit b k = 1) := by
  cases x
  · right; exact ⟨rfl, by intro h; simp [h] at e⟩
  · left; refine ⟨rfl, ?_⟩; have := beq_iff_eq.1 e; omega

theorem pp_yes {a b k : Nat} (ha : a < 256) (hb : b < 256) (hk : k < 8) (h : (bits BinOp.and IntKind.u8 ((b : Int) / 2 ^ k) 1 == 1) = true) :
    bits BinOp.xor IntKind.u16 ((G294.pp a b k : Nat) : Int) (IntKind.u16.wrap ((a : Int) * 2 ^ k)) = ((G294.pp a b (k + 1) : Nat) : Int) := by
  rw [and1_u8 b hb] at h
  have hbit : G294.bit b k = 1 := by have := beq_iff_eq.1 h; omega
  have h1 : ((a : Int) * 2 ^ k) = ((a * 2 ^ k : Nat) : Int) := by simp
  have h2 := G294.shl_lt ha hk
  rw [h1, IntKind.wrap_u16]
  have h3 : ((a * 2 ^ k : Nat) : Int) % 65536 = ((a * 2 ^ k : Nat) : Int) := by omega
  rw [h3, u16_xor_nat _ _ (G294.pp_lt ha b k (by omega)) h2]
  simp [G294.pp, hbit]
theorem pp_no {a b k : Nat} (hb : b < 256) (h : (bits BinOp.and IntKind.u8 ((b : Int) / 2 ^ k) 1 == 1) = false) :
    ((G294.pp a b k : Nat) : Int) = ((G294.pp a b (k + 1) : Nat) : Int) := by
  rw [and1_u8 b hb] at h
  have hbit : ¬ G294.bit b k = 1 := by intro e; simp [e] at h
  simp [G294.pp, hbit]

set_option maxHeartbeats 400000 in
theorem pp_any (a b : Nat) (ha : a < 256) (hb : b < 256) (w : World) :
    Calls Tryd.prog 109 #[.int .u8 a, .int .u8 b] w fun e w' => e = .returned (.int .u16 (G294.pp a b 8 : Nat)) ∧ w = w' := by
  go_enter Tryd.func109, Tryd.ntmps109
  go_wp2
  go_loop [5, 7] (fun p i => ∃ k : Nat, k ≤ 8 ∧ i = .int .i64 k ∧ p = .int .u16 (G294.pp a b k : Nat)) (fun _ i => 8 - (intOf i).toNat)
  case atStart => exact ⟨0, by omega, rfl, rfl⟩
  case round =>
    obtain ⟨k, hk, rfl, rfl⟩ := hrel
    by_cases hlt : k < 8
    · go_wp2
      · have hy := pp_yes ha hb hlt ‹_›
        go_round
        case rel => exact ⟨k + 1, by omega, by go_num, by rw [hy]⟩
        case measure => simp [intOf]; omega
      · have hy := pp_no (a := a) hb ‹_›
        go_round
        case rel => exact ⟨k + 1, by omega, by go_num, by rw [hy]⟩
        case measure => simp [intOf]; omega
    · obtain rfl : k = 8 := by omega
      go_wp2
      go_ret
      exact ⟨rfl, rfl⟩

theorem rd_yes {p k : Nat} (hp : p < 65536) (hk : k < 7) (h : (bits BinOp.and IntKind.u16 ((p : Int) / 2 ^ (8 + k)) 1 == 1) = true) :
    bits BinOp.xor IntKind.u8 ((G294.rd p k : Nat) : Int) ((G294.tabN k : Nat) : Int) = ((G294.rd p (k + 1) : Nat) : Int) := by
  rw [and1_u16 p hp] at h
  have hbit : G294.bit p (8 + k) = 1 := by have := beq_iff_eq.1 h; omega
  rw [u8_xor_nat _ _ (G294.rd_lt p k) (G294.tabN_lt k)]
  simp [G294.rd, hbit]
theorem rd_no {p k : Nat} (hp : p < 65536) (h : (bits BinOp.and IntKind.u16 ((p : Int) / 2 ^ (8 + k)) 1 == 1) = false) :
    ((G294.rd p k : Nat) : Int) = ((G294.rd p (k + 1) : Nat) : Int) := by
  rw [and1_u16 p hp] at h
  have hbit : ¬ G294.bit p (8 + k) = 1 := by intro e; simp [e] at h
  simp [G294.rd, hbit]

set_option maxHeartbeats 400000 in
theorem rd_any (p : Nat) (hp : p < 65536) (w : World) (ht : Tab w) :
    Calls Tryd.prog 108 #[.int .u16 p] w fun e w' => e = .returned (.int .u8 (G294.rd p 7 : Nat)) ∧ w = w' := by
  go_enter Tryd.func108, Tryd.ntmps108
  go_wp2
  go_loop [3, 7] (fun r i => ∃ k : Nat, k ≤ 7 ∧ i = .int .i64 k ∧ r = .int .u8 (G294.rd p k : Nat)) (fun _ i => 7 - (intOf i).toNat)
  case atStart => exact ⟨0, by omega, rfl, by simp [G294.rd]⟩
  case round =>
    obtain ⟨k, hk, rfl, rfl⟩ := hrel
    by_cases hlt : k < 7
    · have hc := ht k hlt
      go_wp2
      · have hy := rd_yes hp hlt ‹_›
        go_round
        case rel => exact ⟨k + 1, by omega, by go_num, by rw [hy]⟩
        case measure => simp [intOf]; omega
      · have hy := rd_no hp ‹_›
        go_round
        case rel => exact ⟨k + 1, by omega, by go_num, by rw [hy]⟩
        case measure => simp [intOf]; omega
    · obtain rfl : k = 7 := by omega
      go_wp2
      go_ret
      exact ⟨rfl, rfl⟩

set_option maxHeartbeats 400000 in
theorem times_any (a b : Nat) (ha : a < 256) (hb : b < 256) (w : World) (ht : Tab w) :
    Calls Tryd.prog 91 #[.int .u8 a, .int .u8 b] w fun e w' => e = .returned (.int .u8 (G294.gm a b : Nat)) ∧ w = w' := by
  have hr := G294.rd_pp8 ha b
  have HR := Lib.hid hr
  clear hr
  go_enter Tryd.func91, Tryd.ntmps91
  go_wp2_with fail
  refine (pp_any a b ha hb _).mono ?_
  rintro e w' ⟨rfl, rfl⟩
  go_wp2_with fail
  refine (rd_any _ (G294.pp_lt ha b 8 (by omega)) _ ht).mono ?_
  rintro e w' ⟨rfl, rfl⟩
  go_wp2_with fail
  go_ret
  exact ⟨ret_int (by rw [HR.out]), rfl⟩

theorem bit_i64 {n : Nat} (hn : n < 9223372036854775808) : bits BinOp.and IntKind.i64 (n : Int) 1 = ((n % 2 : Nat) : Int) := by
  have ho : ∀ a : Nat, a < 9223372036854775808 → (BitVec.ofInt 64 (a : Int)).toNat = a := fun a ha => by
    rw [BitVec.ofInt_natCast, BitVec.toNat_ofNat]; exact Nat.mod_eq_of_lt (by omega)
  show IntKind.i64.wrap ((BitVec.ofInt 64 (n : Int) &&& BitVec.ofInt 64 ((1 : Nat) : Int)).toNat : Int) = _
  rw [BitVec.toNat_and, ho n hn, ho 1 (by omega), IntKind.wrap_i64, Nat.and_one_is_mod]
  omega

set_option maxHeartbeats 1000000 in
theorem powerOf_any (a n : Nat) (ha : a < 256) (hn : n ≤ 10000) (w : World) (ht : Tab w) :
    Calls Tryd.prog 90 #[.int .u8 a, .int .i64 n] w fun e w' => e = .returned (.int .u8 (G294.gp a n : Nat)) ∧ w = w' := by
  go_enter Tryd.func90, Tryd.ntmps90
  go_wp2
  go_loop [0, 1, 5] (fun x y p => ∃ b m q : Nat, b < 256 ∧ m ≤ 10000 ∧ q < 256 ∧ x = .int .u8 b ∧ y = .int .i64 m ∧ p = .int .u8 q ∧ Hid (G294.gm q (G294.gp b m) = G294.gp a n)) (fun _ y _ => (intOf y).toNat)
  case atStart => exact ⟨a, n, 1, ha, hn, by omega, rfl, rfl, rfl, by rw [G294.gm_one_left (G294.gp_lt ha n)]; rfl⟩
  case round =>
    obtain ⟨b, m, q, hb, hm, hq, rfl, rfl, rfl, HE⟩ := hrel
    by_cases hlt : 0 < m
    · have HS := Lib.hid (G294.gp_step (a := b) (n := m) (p := q) hb hq hlt)
      by_cases hodd : m % 2 = 1
      · have hbit : (bits BinOp.and IntKind.i64 (m : Int) 1 == 1) = true := by rw [bit_i64 (by omega), hodd]; rfl
        have HO := Lib.hid hodd
        clear hodd
        go_wp2_with fail
        refine (times_any q b hq hb _ ht).mono ?_
        rintro e w' ⟨rfl, rfl⟩
        go_wp2_with fail
        refine (times_any b b hb hb _ ht).mono ?_
        rintro e w' ⟨rfl, rfl⟩
        go_wp2_with fail
        go_round
        case rel => exact ⟨G294.gm b b, m / 2, G294.gm q b, G294.gm_lt hb b, by omega, G294.gm_lt hq b, rfl, by go_num, rfl, by have h := HS.out; rw [HE.out, if_pos HO.out] at h; exact h.symm⟩
        case measure => simp [intOf]; omega
      · have hbit : (bits BinOp.and IntKind.i64 (m : Int) 1 == 1) = false := by
          have : m % 2 = 0 := by omega
          rw [bit_i64 (by omega), this]; rfl
        have HO := Lib.hid hodd
        clear hodd
        go_wp2_with fail
        refine (times_any b b hb hb _ ht).mono ?_
        rintro e w' ⟨rfl, rfl⟩
        go_wp2_with fail
        go_round
        case rel => exact ⟨G294.gm b b, m / 2, q, G294.gm_lt hb b, by omega, hq, rfl, by go_num, rfl, by have h := HS.out; rw [HE.out, if_neg HO.out] at h; exact h.symm⟩
        case measure => simp [intOf]; omega
    · obtain rfl : m = 0 := by omega
      go_wp2_with fail
      go_ret
      exact ⟨ret_int (by have h := HE.out; simp only [G294.gp, G294.gm_one_right] at h; rw [h]), rfl⟩

set_option maxHeartbeats 400000 in
theorem inverse_any (a : Nat) (ha : a < 256) (w : World) (ht : Tab w) :
    Calls Tryd.prog 153 #[.int .u8 a] w fun e w' => e = .returned (.int .u8 (G294.gi a : Nat)) ∧ w = w' := by
  go_enter Tryd.func153, Tryd.ntmps153
  go_wp2_with fail
  refine (powerOf_any a 254 ha (by omega) _ ht).mono ?_
  rintro e w' ⟨rfl, rfl⟩
  go_wp2_with fail
  go_ret
  exact ⟨rfl, rfl⟩
end Go.Proofs.YtjgmegfbfjmnfaaDoor

/- Contracts of chapter 1: LogOf, and the model's functions. -/
namespace Go.Proofs.YtjgmegfbfjmnfaaDoor
open Go.RowKit

/-- what LogOf returns -/
def logV (a : Nat) : Value := if a = 0 then .tuple #[.int .i64 0, .bool false] else .tuple #[.int .i64 (G294.gl a : Nat), .bool true]

theorem xor_i64 {a b : Nat} (ha : a < 9223372036854775808) (hb : b < 9223372036854775808) : bits BinOp.xor IntKind.i64 (a : Int) (b : Int) = ((a ^^^ b : Nat) : Int) := by
  have ho : ∀ a : Nat, a < 9223372036854775808 → (BitVec.ofInt 64 (a : Int)).toNat = a := fun a ha => by
    rw [BitVec.ofInt_natCast, BitVec.toNat_ofNat]; exact Nat.mod_eq_of_lt (by omega)
  have hx : a ^^^ b < 2 ^ 63 := Nat.xor_lt_two_pow (by omega) (by omega)
  show IntKind.i64.wrap ((BitVec.ofInt 64 (a : Int) ^^^ BitVec.ofInt 64 (b : Int)).toNat : Int) = _
  rw [BitVec.toNat_xor, ho a ha, ho b hb, IntKind.wrap_i64]
  omega

set_option maxHeartbeats 1000000 in
theorem l1Times_any (a b : Nat) (ha : a < 256) (hb : b < 256) (w : World) :
    Calls Tryd.prog 86 #[.int .u8 a, .int .u8 b] w fun e w' => e = .returned (.int .u8 (G294.gm a b : Nat)) ∧ w = w' := by
  go_enter Tryd.func86, Tryd.ntmps86
  go_wp2
  go_loop [5, 6, 7] (fun o x y => ∃ k q p m : Nat, k ≤ 8 ∧ q < 256 ∧ p < 256 ∧ m < 256 ∧ o = .int .i64 q ∧ x = .int .i64 p ∧ y = .int .i64 m ∧ Hid (q = G294.st a b k) ∧ Hid (p = G294.xts k a) ∧ Hid (m = b / 2 ^ k)) (fun _ _ y => (intOf y).toNat)
  case atStart => exact ⟨0, 0, a, b, by omega, by omega, ha, hb, rfl, by simp, by simp, rfl, rfl, by show b = b / 2 ^ 0; omega⟩
  case round =>
    obtain ⟨k, q, p, m, hk, hq, hp, hm, rfl, rfl, rfl, HQ, HP, HM⟩ := hrel
    by_cases hlt : 0 < m
    · have hk8 : k < 8 := G294.k_lt_8 hb (by rw [← HM.out]; exact hlt)
      have HX := Lib.hid (xor_i64 (a := q) (b := p) (by omega) (by omega))
      have HXs := Lib.hid (G294.xs_xt p hp)
      have HX2 := Lib.hid (xor_i64 (a := p * 2) (b := 283) (by omega) (by omega))
      have hqp : q ^^^ p < 256 := G294.xor_lt hq hp
      have HM2 : Hid (m / 2 = b / 2 ^ (k + 1)) := by show m / 2 = _; rw [HM.out, G294.div_step]
      have HB : Hid (G294.bit b k = m % 2) := by show G294.bit b k = _; rw [HM.out]; rfl
      by_cases hodd : m % 2 = 1
      · have hbit : (bits BinOp.and IntKind.i64 (m : Int) 1 == 1) = true := by rw [bit_i64 (by omega), hodd]; rfl
        have HQ2 : Hid (q ^^^ p = G294.st a b (k + 1)) := by
          show q ^^^ p = _
          rw [G294.st, if_pos (by rw [HB.out]; exact hodd), ← HQ.out, ← HP.out]
        clear hodd
        by_cases hov : 255 < p * 2
        · have HPn : Hid (bits BinOp.xor IntKind.i64 ((p : Int) * 2) 283 = ((G294.xt p : Nat) : Int)) := by
            show bits BinOp.xor IntKind.i64 ((p : Int) * 2) 283 = _
            have h := HX2.out
            rw [← HXs.out, G294.xs, if_pos hov, ← h]; rfl
          go_wp2_with fail
          go_round
          case rel => exact ⟨k + 1, q ^^^ p, G294.xt p, m / 2, by omega, hqp, G294.xt_lt p, by omega, by rw [HX.out], by rw [HPn.out], by go_num, HQ2, by show G294.xt p = _; rw [HP.out]; rfl, HM2⟩
          case measure => simp [intOf]; omega
        · have HPn : Hid ((p : Int) * 2 = ((G294.xt p : Nat) : Int)) := by
            show (p : Int) * 2 = _
            rw [← HXs.out, G294.xs, if_neg hov]; simp
          go_wp2_with fail
          go_round
          case rel => exact ⟨k + 1, q ^^^ p, G294.xt p, m / 2, by omega, hqp, G294.xt_lt p, by omega, by rw [HX.out], by rw [HPn.out], by go_num, HQ2, by show G294.xt p = _; rw [HP.out]; rfl, HM2⟩
          case measure => simp [intOf]; omega
      · have hbit : (bits BinOp.and IntKind.i64 (m : Int) 1 == 1) = false := by
          have : m % 2 = 0 := by omega
          rw [bit_i64 (by omega), this]; rfl
        have HQ2 : Hid (q = G294.st a b (k + 1)) := by
          show q = _
          rw [G294.st, if_neg (by rw [HB.out]; exact hodd), ← HQ.out]
        clear hodd
        by_cases hov : 255 < p * 2
        · have HPn : Hid (bits BinOp.xor IntKind.i64 ((p : Int) * 2) 283 = ((G294.xt p : Nat) : Int)) := by
            show bits BinOp.xor IntKind.i64 ((p : Int) * 2) 283 = _
            have h := HX2.out
            rw [← HXs.out, G294.xs, if_pos hov, ← h]; rfl
          go_wp2_with fail
          go_round
          case rel => exact ⟨k + 1, q, G294.xt p, m / 2, by omega, hq, G294.xt_lt p, by omega, rfl, by rw [HPn.out], by go_num, HQ2, by show G294.xt p = _; rw [HP.out]; rfl, HM2⟩
          case measure => simp [intOf]; omega
        · have HPn : Hid ((p : Int) * 2 = ((G294.xt p : Nat) : Int)) := by
            show (p : Int) * 2 = _
            rw [← HXs.out, G294.xs, if_neg hov]; simp
          go_wp2_with fail
          go_round
          case rel => exact ⟨k + 1, q, G294.xt p, m / 2, by omega, hq, G294.xt_lt p, by omega, rfl, by rw [HPn.out], by go_num, HQ2, by show G294.xt p = _; rw [HP.out]; rfl, HM2⟩
          case measure => simp [intOf]; omega
    · obtain rfl : m = 0 := by omega
      go_wp2_with fail
      go_ret
      exact ⟨ret_int (by rw [HQ.out, G294.st_end a b k hk HM.out.symm]), rfl⟩

set_option maxHeartbeats 400000 in
theorem l1Power_any (a n : Nat) (ha : a < 256) (hn : n ≤ 10000) (w : World) :
    Calls Tryd.prog 41 #[.int .u8 a, .int .i64 n] w fun e w' => e = .returned (.int .u8 (G294.gp a n : Nat)) ∧ w = w' := by
  go_enter Tryd.func41, Tryd.ntmps41
  go_wp2
  go_loop [1, 5] (fun y p => ∃ m q : Nat, m ≤ n ∧ q < 256 ∧ y = .int .i64 m ∧ p = .int .u8 q ∧ Hid (q = G294.gp a (n - m))) (fun y _ => (intOf y).toNat)
  case atStart => exact ⟨n, 1, by omega, by omega, rfl, rfl, by show 1 = _; rw [Nat.sub_self]; rfl⟩
  case round =>
    obtain ⟨m, q, hm, hq, rfl, rfl, HQ⟩ := hrel
    by_cases hlt : 0 < m
    · have HQ2 : Hid (G294.gm q a = G294.gp a (n - (m - 1))) := by
        show G294.gm q a = _
        rw [HQ.out, show n - (m - 1) = (n - m) + 1 by omega]; rfl
      go_wp2_with fail
      refine (l1Times_any q a hq ha _).mono ?_
      rintro e w' ⟨rfl, rfl⟩
      go_wp2_with fail
      go_round
      case rel => exact ⟨m - 1, G294.gm q a, by omega, G294.gm_lt hq a, by go_num, rfl, HQ2⟩
      case measure => simp [intOf]; omega
    · obtain rfl : m = 0 := by omega
      go_wp2_with fail
      go_ret
      exact ⟨ret_int (by rw [HQ.out]; rfl), rfl⟩

/-- l1In -/
def inB (n lo hi : Int) : Bool := decide (lo ≤ n ∧ n ≤ hi)
set_option maxHeartbeats 400000 in
theorem l1In_any (n lo hi : Int) (w : World) :
    Calls Tryd.prog 57 #[.int .i64 n, .int .i64 lo, .int .i64 hi] w fun e w' => e = .returned (.bool (inB n lo hi)) ∧ w = w' := by
  by_cases h1 : lo ≤ n
  · have hd : decide (lo ≤ n) = true := by simpa using h1
    by_cases h2 : n ≤ hi
    · have HV : Hid (inB n lo hi = true) := by show inB n lo hi = true; simp [inB, h1, h2]
      go_enter Tryd.func57, Tryd.ntmps57
      go_wp2_with fail
      go_ret
      exact ⟨by rw [HV.out]; simp [h2], rfl⟩
    · have HV : Hid (inB n lo hi = false) := by show inB n lo hi = false; simp [inB, h2]
      go_enter Tryd.func57, Tryd.ntmps57
      go_wp2_with fail
      go_ret
      exact ⟨by rw [HV.out]; simp [h2], rfl⟩
  · have hd : decide (lo ≤ n) = false := by simpa using h1
    have HV : Hid (inB n lo hi = false) := by show inB n lo hi = false; simp [inB, h1]
    go_enter Tryd.func57, Tryd.ntmps57
    go_wp2_with fail
    go_ret
    exact ⟨by rw [HV.out]; rfl, rfl⟩
end Go.Proofs.YtjgmegfbfjmnfaaDoor

/- GoodMatrix, the program's and the model's. -/
namespace G294
theorem goodI_nat (n : Nat) : goodI (n : Int) = decide (1 ≤ n ∧ n ≤ 16) := by
  unfold goodI; rw [decide_eq_decide]; omega
theorem goodM_no1 {L : Mat} (h : goodI L.length = false) : goodM L = false := by
  rw [goodI_nat] at h; simp at h
  rw [Bool.eq_false_iff]; intro e
  have := (goodM_iff L).1 e
  omega
theorem goodM_no2 {L : Mat} (h : goodI (wid L) = false) : goodM L = false := by
  rw [goodI_nat] at h; simp at h
  rw [Bool.eq_false_iff]; intro e
  have := (goodM_iff L).1 e
  omega
theorem goodM_no3 {L : Mat} {k : Nat} (hk : k < L.length) (h : (L.getD k []).length ≠ wid L) : goodM L = false := by
  rw [Bool.eq_false_iff]; intro e
  exact h (((goodM_iff L).1 e).2.2.2.2 k hk)
theorem goodM_yes {L : Mat} (h1 : goodI L.length = true) (h2 : goodI (wid L) = true) (h : ∀ i, i < L.length → (L.getD i []).length = wid L) : goodM L = true := by
  rw [goodI_nat] at h1 h2; simp at h1 h2
  exact (goodM_iff L).2 ⟨h1.1, h1.2, h2.1, h2.2, h⟩
end G294
namespace Go.Proofs.YtjgmegfbfjmnfaaDoor
open Go.RowKit G294

set_option maxHeartbeats 400000 in
theorem goodSide_any (n : Int) (w : World) : Calls Tryd.prog 49 #[.int .i64 n] w fun e w' => e = .returned (.bool (goodI n)) ∧ w = w' := by
  by_cases h1 : 1 ≤ n
  · have hd : decide (1 ≤ n) = true := by simpa using h1
    by_cases h2 : n ≤ 16
    · have HV : Hid (goodI n = true) := by show goodI n = true; simp [goodI, h1, h2]
      go_enter Tryd.func49, Tryd.ntmps49
      go_wp2_with fail
      go_ret
      exact ⟨by rw [HV.out]; simp [h2], rfl⟩
    · have HV : Hid (goodI n = false) := by show goodI n = false; simp [goodI, h2]
      go_enter Tryd.func49, Tryd.ntmps49
      go_wp2_with fail
      go_ret
      exact ⟨by rw [HV.out]; simp [h2], rfl⟩
  · have hd : decide (1 ≤ n) = false := by simpa using h1
    have HV : Hid (goodI n = false) := by show goodI n = false; simp [goodI, h1]
    go_enter Tryd.func49, Tryd.ntmps49
    go_wp2_with fail
    go_ret
    exact ⟨by rw [HV.out]; rfl, rfl⟩

theorem l1In_side (n : Int) (w : World) : Calls Tryd.prog 57 #[.int .i64 n, .int .i64 1, .int .i64 16] w fun e w' => e = .returned (.bool (goodI n)) ∧ w = w' := l1In_any n 1 16 w

set_option maxRecDepth 100000 in
set_option maxHeartbeats 1000000 in
theorem igood_any (v : Value) (L : Mat) (w : World) (hs : SeenM w v L) :
    Calls Tryd.prog 119 #[.agg #[v]] w (RetBool w (goodM L)) := by
  have hb1 : Below w.heap.size w (w.alloc (.cells #[v] 39)) := (Below.refl _ _).alloc (Nat.le_refl _) _
  have HB1 := Lib.hid (TurnIn.of_below hb1)
  obtain ⟨A, c, rfl, hlc, hcm⟩ := hs.len
  unfold maxLen at hcm
  by_cases h1 : goodI L.length = true
  · have H1 := Lib.hid h1
    have hn : 1 ≤ L.length ∧ L.length ≤ 16 := by rw [goodI_nat] at h1; simpa using h1
    have HSM := Lib.hid hs
    obtain ⟨bb, off, c', u0, hv, _, _, hbl, hc0, hs0⟩ := hs.row 0 (by omega)
    obtain ⟨rfl, rfl⟩ : A = some ⟨bb, off, none⟩ ∧ c = c' := by simpa using hv
    obtain ⟨A0, c0, rfl, hl0, hm0, _⟩ := hs0
    rw [bys_length] at hc0 hl0
    rw [Nat.add_zero] at hc0
    unfold maxLen at hm0
    have hw1 : (w.alloc (.cells #[.slice (some ⟨bb, off, none⟩) L.length c] 39)).cell? ⟨bb, off, none⟩ = some (.slice A0 (L.getD 0 []).length c0) := (hb1.cell (p := ⟨bb, off, none⟩) hbl).trans hc0
    have hbx : (w.alloc (.cells #[.slice (some ⟨bb, off, none⟩) L.length c] 39)).cell? ⟨w.heap.size, 0, none⟩ = some (.slice (some ⟨bb, off, none⟩) L.length c) := by simp
    have HBW := Lib.hid hb1
    have hpos : 0 < L.length := by omega
    have hne : bb ≠ w.heap.size := by omega
    have HW : Hid (wid L = (L.getD 0 []).length) := rfl
    clear hv h1 hb1 hs
    generalize hll : L.length = n at *
    generalize hww : (L.getD 0 []).length = n0 at *
    have HLL := Lib.hid hll
    have HWW := Lib.hid hww
    clear hll hww
    by_cases h2 : goodI n0 = true
    · have H2 := Lib.hid h2
      clear h2
      go_enter Tryd.func119, Tryd.ntmps119
      go_wp2_with fail
      refine (goodSide_any _ _).mono ?_
      rintro e w' ⟨rfl, rfl⟩
      rw [H1.out]
      go_wp2_with fail
      refine (goodSide_any _ _).mono ?_
      rintro e w' ⟨rfl, rfl⟩
      rw [H2.out]
      go_wp2_with fail
      generalize w.alloc (.cells #[.slice (some ⟨bb, off, none⟩) n c] 39) = w1 at *
      go_loop [22] (fun i => ∃ k : Nat, k ≤ n ∧ i = .int .i64 k ∧ Hid (∀ i, i < k → (L.getD i []).length = n0)) (fun i => n - (intOf i).toNat)
      case atStart => exact ⟨0, Nat.zero_le _, rfl, fun i h => by omega⟩
      case round =>
        obtain ⟨k, hk, rfl, HK⟩ := hrel
        by_cases hlt : k < n
        · have hki : (k : Int) < (n : Int) := by omega
          obtain ⟨bb2, off2, c2, uk, hv, _, _, hbl2, hck, ⟨Ak, ck, rfl, hlk, hmk, _⟩⟩ := HSM.out.row k (by rw [HLL.out]; exact hlt)
          simp only [Value.slice.injEq, Option.some.injEq, Addr.mk.injEq, and_true] at hv
          obtain ⟨⟨rfl, rfl⟩, _, rfl⟩ := hv
          rw [bys_length] at hck hlk
          have hck' := (HBW.out.cell (p := ⟨bb, off + k, none⟩) hbl2).trans hck
          clear hck
          unfold maxLen at hmk
          by_cases he : (L.getD k []).length = n0
          · have hbb : (((L.getD k []).length : Int) != (n0 : Int)) = false := by rw [he]; simp
            have HK2 : Hid (∀ i, i < k + 1 → (L.getD i []).length = n0) := fun i hi => by
              by_cases e : i = k
              · rw [e]; exact he
              · exact HK.out i (by omega)
            clear he
            generalize (L.getD k []).length = nk at *
            go_wp2_with fail
            go_round
            case rel => exact ⟨k + 1, by omega, by go_num, HK2⟩
            case measure => simp [intOf]; omega
          · have hbb : (((L.getD k []).length : Int) != (n0 : Int)) = true := bne_iff_ne.2 (fun e => he (Int.natCast_inj.1 e))
            have HF := Lib.hid (goodM_no3 (L := L) (k := k) (by rw [HLL.out]; exact hlt) (by rw [HW.out]; exact he))
            clear he
            generalize (L.getD k []).length = nk at *
            go_wp2_with fail
            go_ret
            exact ⟨by rw [HF.out]; rfl, HB1.out⟩
        · obtain rfl : k = n := by omega
          have hki : ¬ (k : Int) < (k : Int) := by omega
          have HF := Lib.hid (goodM_yes (L := L) (by rw [HLL.out]; exact H1.out) (by rw [HW.out]; exact H2.out) (fun i hi => by rw [HW.out]; exact HK.out i (by rw [← HLL.out]; exact hi)))
          go_wp2_with fail
          go_ret
          exact ⟨by rw [HF.out]; rfl, HB1.out⟩
    · have H2 : Hid (goodI n0 = false) := by show goodI n0 = false; simpa using h2
      have HF := Lib.hid (goodM_no2 (L := L) (by rw [HW.out]; exact H2.out))
      clear h2
      go_enter Tryd.func119, Tryd.ntmps119
      go_wp2_with fail
      refine (goodSide_any _ _).mono ?_
      rintro e w' ⟨rfl, rfl⟩
      rw [H1.out]
      go_wp2_with fail
      refine (goodSide_any _ _).mono ?_
      rintro e w' ⟨rfl, rfl⟩
      rw [H2.out]
      go_wp2_with fail
      go_ret
      exact ⟨by rw [HF.out]; rfl, HB1.out⟩
  · have H1 : Hid (goodI L.length = false) := by show goodI L.length = false; simpa using h1
    have HF := Lib.hid (goodM_no1 H1.out)
    clear h1 hs hb1
    generalize L.length = n at *
    go_enter Tryd.func119, Tryd.ntmps119
    go_wp2_with fail
    refine (goodSide_any _ _).mono ?_
    rintro e w' ⟨rfl, rfl⟩
    rw [H1.out]
    go_wp2_with fail
    go_ret
    exact ⟨by rw [HF.out]; rfl, HB1.out⟩

end Go.Proofs.YtjgmegfbfjmnfaaDoor

/- The program's Identity, Transposed, Vandermonde and Cauchy. -/
namespace G294
open Go Go.RowKit
theorem turn_setCell (w : World) (B o : Nat) (x : Value) : TurnIn B (B + 1) w (w.setCell ⟨B, o, none⟩ x) :=
  ⟨rfl, rfl, rfl, by simp, fun k hk hd => heap_setCell_other w ⟨B, o, none⟩ k x (by intro e; simp at e; omega)⟩
theorem cell_set_other (w : World) {B B' : Nat} (o o' : Nat) (x : Value) (h : B ≠ B') : (w.setCell ⟨B, o, none⟩ x).cell? ⟨B', o', none⟩ = w.cell? ⟨B', o', none⟩ :=
  World.cell?_of_block (heap_setCell_other w ⟨B, o, none⟩ B' x (by intro e; simp at e; omega))
theorem frozen_set_other (w : World) {B B' : Nat} (o o' : Nat) (x : Value) (h : B ≠ B') : (w.setCell ⟨B, o, none⟩ x).frozen? ⟨B', o', none⟩ = w.frozen? ⟨B', o', none⟩ :=
  World.frozen?_of_block (heap_setCell_other w ⟨B, o, none⟩ B' x (by intro e; simp at e; omega))
/-- a result is stored into a variable that the call made ahead of it -/
theorem ret_store {E EE : TypeId} {w w1 w' : World} {v : Value} {L : Mat} {vs : List Value} (hb : Below w.heap.size w w1) (hM : OwnM E EE w' w1.heap.size w'.heap.size v L vs) (ht : TurnIn 0 0 w1 w') (B o : Nat) (h1 : w.heap.size ≤ B) (h2 : B < w1.heap.size) (x : Value) :
    OwnM E EE (w'.setCell ⟨B, o, none⟩ x) w.heap.size (w'.setCell ⟨B, o, none⟩ x).heap.size v L vs ∧ TurnIn 0 0 w (w'.setCell ⟨B, o, none⟩ x) := by
  have k := turn_setCell w' B o x
  have hs := k.size
  refine ⟨(hM.keep k (by omega)).wider (by have := hb.size; omega) hs (Nat.le_refl _), TurnIn.of_below ?_⟩
  have h3 : Below w.heap.size w w' := ht.base hb hb.size (by omega)
  exact h3.setCell h1 _
theorem cell_turn {w w' : World} (t : TurnIn 0 0 w w') {B o : Nat} {x : Value} (h : w.cell? ⟨B, o, none⟩ = some x) (hB : B < w.heap.size) : w'.cell? ⟨B, o, none⟩ = some x := (t.to_below.cell (p := ⟨B, o, none⟩) hB).trans h
theorem frozen_turn {w w' : World} (t : TurnIn 0 0 w w') {B o : Nat} {x : Bool} (h : w.frozen? ⟨B, o, none⟩ = x) (hB : B < w.heap.size) : w'.frozen? ⟨B, o, none⟩ = x := (t.to_below.frozen (p := ⟨B, o, none⟩) hB).trans h
end G294
namespace Go.Proofs.YtjgmegfbfjmnfaaDoor
open Go.RowKit G294

theorem vand_u8 (i j : Nat) (hi : i < 256) : ((vandF i j).toNat : Int) = (gp i j : Nat) := by
  unfold vandF; rw [UInt8.toNat_ofNat', Nat.mod_eq_of_lt (gp_lt hi j)]

theorem cau_u8 (c i j : Nat) (h1 : c + i < 256) (h2 : j < 256) : ((cauF c i j).toNat : Int) = (gi ((c + i) ^^^ j) : Nat) := by
  unfold cauF; rw [UInt8.toNat_ofNat', Nat.mod_eq_of_lt (gi_lt (xor_lt h1 h2))]
end Go.Proofs.YtjgmegfbfjmnfaaDoor
