/- Joined texts: IntsWalks, NewGrid, Conv, Turned, Good, MatI, SpecBlank. -/
import Derived.Test.YtlkoafnlklhaeaaDoorBd02
import Derived.Test.YtlkoafnlklhaeaaDoorBd01
import Derived.Test.YtlkoafnlklhaeaaDoorProg
import Derived.Deep.QuietTactic
import Derived.BigQuiet
import Derived.Deep.RegionHeld3
import Derived.Shelf.Abstract
import Derived.Test.YtlkoafnlklhaeaaDoorBd00
import Derived.Deep.OwnRows
import Derived.Deep.RegionLaw
set_option linter.unusedSimpArgs false
set_option linter.unusedVariables false
/- Contracts of the laws' helpers on []int: a copy, equality, marks, marks held. -/
namespace Go.Proofs.YtlkoafnlklhaeaaDoor
open Go.RowKit G294

theorem infoInt : (Tryd.prog.info? 3).map (fun i => (i.zero, i.size, i.bytes)) = some (some (.int .i64 0), 1, 8) := by kernel_rfl

theorem eq_atI {l m : List Int} {k : Nat} (hl : k < l.length) (hm : k < m.length) (h : l[k] ≠ m[k]) : (l == m) = false := by
  rw [beq_eq_false_iff_ne]
  intro e; subst e; exact h rfl

theorem eq_allI {l m : List Int} (hl : l.length = m.length) (h : ∀ i (h1 : i < l.length) (h2 : i < m.length), l[i] = m[i]) : (l == m) = true := by
  rw [beq_iff_eq]; exact List.ext_getElem hl h

set_option maxHeartbeats 400000 in
theorem toIntS_any (v : Value) (l : List Int) (w : World) (hv : Seen w v (ints l)) (hn : l.length ≤ 1048576) :
    Calls Tryd.prog 63 #[v] w (Made w 3 (ints l)) := by
  obtain ⟨i0, hi0, hz0, hz1, hz2⟩ := info_parts infoInt
  obtain ⟨A, c, rfl, hlc, hcm, hx⟩ := hv
  rw [ints_length] at hlc hx
  simp only [ints_length]
  unfold maxLen at hcm
  generalize hnn : l.length = n at *
  have HN := Lib.hid hnn
  clear hnn
  go_enter Tryd.func63, Tryd.ntmps63
  go_wp2_with (at_make; refine wpList_make_full _ rfl _ _ _ rfl w.heap.size _ i0 _ 1 Tryd.underlying97 hi0 hz0 hz1 _ _ _ _ n rfl rfl rfl rfl ?b2 ?b3 ?b4 ?_)
  case b2 => rw [hz2]; omega
  case b3 => unfold maxLen; omega
  case b4 => exact Nat.le_refl _
  intro w1 hown1 hg1
  have hb1 : Below w.heap.size w w1 := below_of_grown hg1 (Nat.le_refl _) (by simp)
  rw [toList_madeCells_one] at hown1
  clear hg1
  go_wp2_with fail
  go_loopw [4] (fun i wr => ∃ k : Nat, k ≤ n ∧ i = .int .i64 k ∧ wr.ownsRow w.heap.size 3 1 (.slice (some ⟨w.heap.size, 0, none⟩) n n) n ((ints l).take k ++ List.replicate (n - k) (.int .i64 0)) ∧ Below w.heap.size w wr)
    (fun i _ => n - (intOf i).toNat)
  case atStart => exact ⟨0, Nat.zero_le _, rfl, by simpa using hown1, hb1⟩
  case round =>
    obtain ⟨k, hk, rfl, hown, hb⟩ := hrel
    clear hown1 hb1
    by_cases hlt : k < n
    · obtain ⟨b, off, rfl, hbl, hcell⟩ := hx (by omega)
      have hkl : k < l.length := by rw [HN.out]; exact hlt
      have hcx : wr.cell? ⟨b, off + k, none⟩ = some (.int .i64 (l[k])) := (hb.cell (p := ⟨b, off + k, none⟩) hbl).trans (hcell k _ (ints_get l k hkl))
      have hco : wr.cell? ⟨w.heap.size, k, none⟩ = some (.int .i64 0) := by
        have ht : ((ints l).take k).length = k := by simp; omega
        rw [hown.cellAt k (by omega), List.getElem?_append_right (by omega), ht, Nat.sub_self, List.getElem?_replicate, if_pos (by omega)]
      have hfr := hown.frozenAt k
      have hst := hown.stored k (.int .i64 (l[k]))
      rw [take_set_next (ints l) _ k _ (ints_get l k hkl) (by simp [HN.out]; omega)] at hst
      clear hcell hx
      go_wp2_with fail
      go_roundw
      case rel => exact ⟨k + 1, by omega, by go_num, by simpa [Nat.sub_sub] using hst.1, hb.setCell (Nat.le_refl _) _⟩
      case measure => simp [intOf]; omega
    · obtain rfl : k = n := by omega
      go_wp2_with fail
      go_ret
      refine ⟨_, rfl, ?_, hb⟩
      rw [List.take_of_length_le (by simp [HN.out]), Nat.sub_self] at hown
      simpa [HN.out] using hown

set_option maxHeartbeats 400000 in
theorem eqIntS_any (v u : Value) (l m : List Int) (w : World) (hv : Seen w v (ints l)) (hu : Seen w u (ints m)) :
    Calls Tryd.prog 65 #[v, u] w (Tells w (l == m)) := by
  obtain ⟨A, c, rfl, hlc, hcm, hx⟩ := hv
  obtain ⟨A', c', rfl, hlc', hcm', hx'⟩ := hu
  rw [ints_length] at hlc hx hlc' hx'
  simp only [ints_length]
  unfold maxLen at hcm hcm'
  by_cases hlen : l.length = m.length
  · generalize hnn : l.length = n at *
    generalize hmm : m.length = n' at *
    obtain rfl : n = n' := by omega
    have HN := Lib.hid hnn
    have HM := Lib.hid hmm
    clear hnn hmm
    have hbn : ((n : Int) != (n : Int)) = false := by simp
    go_enter Tryd.func65, Tryd.ntmps65
    go_wp2_with fail
    go_loopw [5] (fun i wr => ∃ k : Nat, k ≤ n ∧ i = .int .i64 k ∧ Hid (∀ i (h1 : i < l.length) (h2 : i < m.length), i < k → l[i] = m[i]) ∧ Below w.heap.size w wr)
      (fun i _ => n - (intOf i).toNat)
    case atStart => exact ⟨0, Nat.zero_le _, rfl, (fun _ _ _ h => by omega), Below.refl _ _⟩
    case round =>
      obtain ⟨k, hk, rfl, HE, hb⟩ := hrel
      by_cases hlt : k < n
      · obtain ⟨b, off, rfl, hbl, hcell⟩ := hx (by omega)
        obtain ⟨b', off', rfl, hbl', hcell'⟩ := hx' (by omega)
        have hkl : k < l.length := by rw [HN.out]; exact hlt
        have hkm : k < m.length := by rw [HM.out]; exact hlt
        have hcx : wr.cell? ⟨b, off + k, none⟩ = some (.int .i64 (l[k])) := (hb.cell (p := ⟨b, off + k, none⟩) hbl).trans (hcell k _ (ints_get l k hkl))
        have hcy : wr.cell? ⟨b', off' + k, none⟩ = some (.int .i64 (m[k])) := (hb.cell (p := ⟨b', off' + k, none⟩) hbl').trans (hcell' k _ (ints_get m k hkm))
        clear hcell hcell' hx hx'
        have hki : (k : Int) < (n : Int) := by omega
        by_cases hne : l[k] = m[k]
        · have hbb : (l[k] != m[k]) = false := by simp [hne]
          have HK : Hid (∀ i (h1 : i < l.length) (h2 : i < m.length), i < k + 1 → l[i] = m[i]) := fun i h1 h2 h => by
            rcases Nat.lt_or_ge i k with h' | h'
            · exact HE.out i h1 h2 h'
            · obtain rfl : i = k := by omega
              exact hne
          clear hne
          go_wp2_with fail
          go_quiet (fail)
          go_wp2_with fail
          go_roundw
          case rel => exact ⟨k + 1, by omega, by go_num, HK, below_drewN hb _⟩
          case measure => simp [intOf]; omega
        · have hbb : (l[k] != m[k]) = true := by simpa using hne
          have HF := Lib.hid (eq_atI hkl hkm hne)
          clear hne
          go_wp2_with fail
          go_quiet (fail)
          go_wp2_with fail
          go_ret
          exact ⟨by rw [HF.out]; rfl, below_drewN hb _⟩
      · obtain rfl : k = n := by omega
        have HF := Lib.hid (eq_allI (l := l) (m := m) (by rw [HN.out, HM.out]) (fun i h1 h2 => HE.out i h1 h2 (by rw [HN.out] at h1; exact h1)))
        go_wp2_with fail
        go_ret
        exact ⟨by rw [HF.out]; rfl, hb⟩
  · have hbn : ((l.length : Int) != (m.length : Int)) = true := by simp; omega
    have HF : Hid ((l == m) = false) := by
      show (l == m) = false
      rw [beq_eq_false_iff_ne]; intro e; exact hlen (by rw [e])
    clear hlen
    generalize l.length = n at *
    generalize m.length = n' at *
    go_enter Tryd.func65, Tryd.ntmps65
    go_wp2_with fail
    go_ret
    exact ⟨by rw [HF.out]; rfl, Below.refl _ _⟩

theorem toIntS_own (v : Value) (l : List Int) (w : World) (hv : Seen w v (ints l)) (hn : l.length ≤ 1048576) : Calls Tryd.prog 63 #[v] w (RetInts 3 w l) :=
  (toIntS_any v l w hv hn).mono fun e w' ⟨v', he, ho, hb⟩ => ⟨v', he, OwnInts.of_made (by simpa using ho), TurnIn.of_below hb⟩

theorem eqIntS_same (v u : Value) (l : List Int) (w : World) (hv : Seen w v (ints l)) (hu : Seen w u (ints l)) : Calls Tryd.prog 65 #[v, u] w (RetBool w true) := by
  have := eqIntS_any v u l l w hv hu
  rw [beq_self_eq_true] at this
  exact this.mono fun e w' ⟨he, hb⟩ => ⟨he, TurnIn.of_below hb⟩

end Go.Proofs.YtlkoafnlklhaeaaDoor

/- newGrid: rows of a new grid, entry by entry, by whatever function value. -/
namespace G294
open Go Go.RowKit
/-- the function value g with what it captured hands back F i j at i, j; it may draw; it turns and lays nothing -/
def GivesAt (P : Program) (g : Nat) (lb : Array Value) (r c : Nat) (F : Ents) (w : World) : Prop :=
  ∀ (W : World) (i j : Nat), Below w.heap.size w W → i < r → j < c → Calls P g (#[.int .i64 i, .int .i64 j] ++ lb) W fun e w' => e = .returned (.int .u8 ((F i j).toNat : Int)) ∧ ∃ q, w' = W.drewN q
theorem GivesAt.later {P : Program} {g : Nat} {lb : Array Value} {r c : Nat} {F : Ents} {w W : World} (h : GivesAt P g lb r c F w) (hb : Below w.heap.size w W) : GivesAt P g lb r c F W :=
  fun W' i j hb' hi hj => h W' i j (hb.trans (hb'.mono hb.size)) hi hj
theorem getD_rep (n i : Nat) : (List.replicate n ([] : List UInt8)).getD i [] = [] := by
  simp only [List.getD, List.getElem?_replicate]; split <;> rfl
theorem own_blank {E EE : TypeId} {w w1 : World} {r c : Nat} {F : Ents} {v : Value} (h : w1.ownsRow w.heap.size EE 1 v r (List.replicate r (.slice none 0 0))) :
    OwnM E EE w1 w.heap.size w1.heap.size v (mkM 0 c F ++ List.replicate (r - 0) []) (List.replicate r (.slice none 0 0)) := by
  refine ⟨by simpa using h, Nat.le_refl _, fun g e => (h.lt g e).2, ?_, ?_⟩
  · intro i u hu
    have : u = .slice none 0 0 := by
      rw [List.getElem?_replicate] at hu; split at hu <;> simp_all
    subst this
    have e : (mkM 0 c F ++ List.replicate (r - 0) []).getD i [] = [] := by
      have e0 : mkM 0 c F = [] := rfl
      rw [e0, List.nil_append]; exact getD_rep _ _
    rw [e]
    exact OwnBytes.nil _ _ _
  · intro i u g hu hg
    have : u = .slice none 0 0 := by
      rw [List.getElem?_replicate] at hu; split at hu <;> simp_all
    subst this
    simp [Value.ownBlock] at hg
theorem mkM_succ (k c : Nat) (F : Ents) : mkM (k + 1) c F = mkM k c F ++ [mkRow c (F k)] := by simp [mkM, List.range_succ]
theorem set_mid {α : Type} (l m : List α) (x y : α) (k : Nat) (hk : l.length = k) : (l ++ x :: m).set k y = l ++ y :: m := by
  subst hk; simp
theorem getD_mid {α : Type} (l m : List α) (x d : α) (k : Nat) (hk : l.length = k) : (l ++ x :: m).getD k d = x := by
  subst hk; simp [List.getD]
end G294
namespace Go.Proofs.YtlkoafnlklhaeaaDoor
open Go.RowKit G294

theorem infoRowB : (Tryd.prog.info? 24).map (fun i => (i.zero, i.size, i.bytes)) = some (some (.slice none 0 0), 1, 24) := by kernel_rfl

theorem infoElemB : (Tryd.prog.info? 5).map (fun i => (i.zero, i.size, i.bytes)) = some (some (.int .u8 0), 1, 1) := by kernel_rfl

set_option maxRecDepth 100000 in
set_option maxHeartbeats 2000000 in
theorem newGridB (r c g : Nat) (lb : Array Value) (F : Ents) (w : World) (eg : ∀ args w, (callFunc g args).run Tryd.prog w = .ok (.enter g args) w)
    (hat : GivesAt Tryd.prog g lb r c F w) (hr : r ≤ 1000) (hc : c ≤ 1000) :
    Calls Tryd.prog 166 #[.int .i64 r, .int .i64 c, .func (.func g) #[] lb] w (RetM 5 24 w (mkM r c F)) := by
  obtain ⟨i0, hi0, hz0, hz1, hz2⟩ := info_parts infoRowB
  obtain ⟨i1, hi1, hy0, hy1, hy2⟩ := info_parts infoElemB
  have HAT := Lib.hid hat
  clear hat
  go_enter Tryd.func166, Tryd.ntmps166
  go_wp2_with (at_make; refine wpList_make_full _ rfl _ _ _ rfl w.heap.size _ i0 _ 1 Tryd.underlying194 hi0 hz0 hz1 _ _ _ _ r rfl rfl rfl rfl ?b2 ?b3 ?b4 ?_)
  case b2 => rw [hz2]; omega
  case b3 => unfold maxLen; omega
  case b4 => exact Nat.le_refl _
  intro w1 hown1 hg1
  rw [toList_madeCells_one] at hown1
  have hb1 : Below w.heap.size w w1 := below_of_grown hg1 (Nat.le_refl _) (by simp)
  have hM1 : OwnM 5 24 w1 w.heap.size w1.heap.size (.slice (some ⟨w.heap.size, 0, none⟩) r r) (mkM 0 c F ++ List.replicate (r - 0) []) (List.replicate r (.slice none 0 0)) := own_blank hown1
  clear hg1 hown1
  go_wp2_with fail
  go_loopw [14] (fun i wr => ∃ (k : Nat) (vs : List Value), k ≤ r ∧ i = .int .i64 k ∧ OwnM 5 24 wr w.heap.size wr.heap.size (.slice (some ⟨w.heap.size, 0, none⟩) r r) (mkM k c F ++ List.replicate (r - k) []) vs ∧ Below w.heap.size w wr)
    (fun i _ => r - (intOf i).toNat)
  case atStart => exact ⟨0, _, Nat.zero_le _, rfl, hM1, hb1⟩
  case round =>
    obtain ⟨k, vs, hk, rfl, hM, hb⟩ := hrel
    clear hM1 hb1
    by_cases hlt : k < r
    · have hki : (k : Int) < (r : Int) := by omega
      go_wp2_with (at_make; refine wpList_make_full _ rfl _ _ _ rfl wr.heap.size _ i1 _ 1 Tryd.underlying24 hi1 hy0 hy1 _ _ _ _ c rfl rfl rfl rfl ?d2 ?d3 ?d4 ?_)
      case d2 => rw [hy2]; omega
      case d3 => unfold maxLen; omega
      case d4 => exact Nat.le_refl _
      intro w2 hown2 hg2
      rw [toList_madeCells_one] at hown2
      have hs2 := hg2.size
      have k2 : TurnIn 0 0 wr w2 := TurnIn.of_grown hg2 (by simp)
      have hM2 := hM.keep k2 (by omega)
      have hb2 : Below w.heap.size w w2 := k2.base hb (by have := hb.size; omega) (by omega)
      obtain ⟨u0, hu0, _⟩ := hM2.at k (by simp; omega)
      have hco := hM2.cellAt hu0
      have hfr := hM2.frozenAt k
      have hrow : OwnBytes 5 w2 wr.heap.size w2.heap.size (.slice (some ⟨wr.heap.size, 0, none⟩) c c) (mkRow c fun j => if j < 0 then F k j else 0) := by
        refine OwnBytes.of_made ?_
        rw [bys_zero c _ (fun j _ => if_neg (by omega))]
        simpa using hown2
      have hM3 := (hM2.put (k := k) (by simp [mkM]; omega) (by simp; omega) hrow (by omega) (by have := hb.size; omega) hs2).congr (L' := mkM k c F ++ (mkRow c fun j => if j < 0 then F k j else 0) :: List.replicate (r - k - 1) []) (by
        have e : List.replicate (r - k) ([] : List UInt8) = [] :: List.replicate (r - k - 1) [] := by
          rw [← List.replicate_succ]; congr 1; omega
        rw [e, set_mid _ _ _ _ _ (mkM_length k c F)])
      have hvs : (vs.set k (.slice (some ⟨wr.heap.size, 0, none⟩) c c))[k]? = some (.slice (some ⟨wr.heap.size, 0, none⟩) c c) := by
        have := (List.getElem?_eq_some_iff.1 hu0).1
        simp [this]
      have HVS := Lib.hid hvs
      have hb3 : Below w.heap.size w (w2.setCell ⟨w.heap.size, k, none⟩ (.slice (some ⟨wr.heap.size, 0, none⟩) c c)) := hb2.setCell (Nat.le_refl _) _
      have hc3 := hM3.cellAt hvs
      have hwr : w.heap.size ≤ wr.heap.size := hb.size
      clear hrow hM2 hown2 hg2 hb2 hM hb hvs k2
      generalize wr.heap.size = B at *
      generalize vs.set k (.slice (some ⟨B, 0, none⟩) c c) = vs1 at *
      go_wp2_with fail
      go_loopw [27] (fun i wq => ∃ m : Nat, m ≤ c ∧ i = .int .i64 m ∧ OwnM 5 24 wq w.heap.size wq.heap.size (.slice (some ⟨w.heap.size, 0, none⟩) r r) (mkM k c F ++ (mkRow c fun j => if j < m then F k j else 0) :: List.replicate (r - k - 1) []) vs1 ∧ Below w.heap.size w wq)
        (fun i _ => c - (intOf i).toNat)
      case atStart => exact ⟨0, Nat.zero_le _, rfl, by simpa using hM3, hb3⟩
      case round =>
        obtain ⟨m, hm, rfl, hM, hb⟩ := hrel
        clear hM3 hb3 hc3 hfr hco
        by_cases hlm : m < c
        · have hmi : (m : Int) < (c : Int) := by omega
          have hco := hM.cellAt HVS.out
          have hrow := hM.rows k _ HVS.out
          rw [getD_mid _ _ _ _ _ (mkM_length k c F)] at hrow
          have hcx := hrow.cellAt (k := m) (by rw [mkRow_length]; exact hlm)
          have hfr := hrow.frozenAt m
          have hst := fun q => ((hM.drewN q).store (j := m) (x := F k m) (k := k) (by rw [List.length_append, mkM_length, List.length_cons]; omega) HVS.out).congr (L' := mkM k c F ++ (mkRow c fun j => if j < m + 1 then F k j else 0) :: List.replicate (r - k - 1) []) (by
            rw [getD_mid _ _ _ _ _ (mkM_length k c F), set_mid _ _ _ _ _ (mkM_length k c F), mkRow_set]
            congr 2
            apply mkRow_congr
            intro j hj
            by_cases e : j = m
            · subst e; simp
            · rw [if_neg e]
              by_cases h2 : j < m
              · rw [if_pos h2, if_pos (by omega)]
              · rw [if_neg h2, if_neg (by omega)])
          have hcall := fun W (hW : Below w.heap.size w W) => HAT.out W k m hW hlt hlm
          have HST := Lib.hid hst
          have HCALL := Lib.hid hcall
          have hne : w.heap.size ≠ B := fun e => (hM.apart k _ B HVS.out rfl).1 (by rw [e]; rfl)
          have hne' : B ≠ w.heap.size := fun e => hne e.symm
          clear hcall hst
          go_wp2_with fail
          go_region_held3 (fun w' => w'.cell? ⟨w.heap.size, k, none⟩ = some (.slice (some ⟨B, 0, none⟩) c c))
            (first | go_keep)
            ((go_at_fn g; refine (HCALL.out _ (by first | assumption | exact below_drewN hb _)).mono ?_; rintro e w' ⟨rfl, q, rfl⟩))
          go_wp2_with fail
          go_roundw
          case rel => exact ⟨m + 1, by omega, by go_num, by simpa using HST.out (1 + q), (below_drewN hb _).setCell hwr _⟩
          case measure => simp [intOf]; omega
        · obtain rfl : m = c := by omega
          have hmi : ¬ (m : Int) < (m : Int) := by omega
          go_wp2_with fail
          go_roundw
          case rel => exact ⟨k + 1, vs1, by omega, by go_num, hM.congr (by
            rw [mkM_succ, List.append_assoc, show r - (k + 1) = r - k - 1 by omega]
            congr 2
            exact mkRow_congr fun j hj => if_pos hj), hb⟩
          case measure => simp [intOf]; omega
    · obtain rfl : k = r := by omega
      have hki : ¬ (k : Int) < (k : Int) := by omega
      go_wp2_with fail
      go_ret
      refine ⟨_, vs, rfl, ?_, TurnIn.of_below hb⟩
      rw [Nat.sub_self] at hM
      simpa using hM

theorem infoRowF : (Tryd.prog.info? 214).map (fun i => (i.zero, i.size, i.bytes)) = some (some (.slice none 0 0), 1, 24) := by kernel_rfl

theorem infoElemF : (Tryd.prog.info? 183).map (fun i => (i.zero, i.size, i.bytes)) = some (some (.int .u8 0), 1, 1) := by kernel_rfl

set_option maxRecDepth 100000 in
set_option maxHeartbeats 2000000 in
theorem newGridF (r c g : Nat) (lb : Array Value) (F : Ents) (w : World) (eg : ∀ args w, (callFunc g args).run Tryd.prog w = .ok (.enter g args) w)
    (hat : GivesAt Tryd.prog g lb r c F w) (hr : r ≤ 1000) (hc : c ≤ 1000) :
    Calls Tryd.prog 152 #[.int .i64 r, .int .i64 c, .func (.func g) #[] lb] w (RetM 183 214 w (mkM r c F)) := by
  obtain ⟨i0, hi0, hz0, hz1, hz2⟩ := info_parts infoRowF
  obtain ⟨i1, hi1, hy0, hy1, hy2⟩ := info_parts infoElemF
  have HAT := Lib.hid hat
  clear hat
  go_enter Tryd.func152, Tryd.ntmps152
  go_wp2_with (at_make; refine wpList_make_full _ rfl _ _ _ rfl w.heap.size _ i0 _ 1 Tryd.underlying181 hi0 hz0 hz1 _ _ _ _ r rfl rfl rfl rfl ?b2 ?b3 ?b4 ?_)
  case b2 => rw [hz2]; omega
  case b3 => unfold maxLen; omega
  case b4 => exact Nat.le_refl _
  intro w1 hown1 hg1
  rw [toList_madeCells_one] at hown1
  have hb1 : Below w.heap.size w w1 := below_of_grown hg1 (Nat.le_refl _) (by simp)
  have hM1 : OwnM 183 214 w1 w.heap.size w1.heap.size (.slice (some ⟨w.heap.size, 0, none⟩) r r) (mkM 0 c F ++ List.replicate (r - 0) []) (List.replicate r (.slice none 0 0)) := own_blank hown1
  clear hg1 hown1
  go_wp2_with fail
  go_loopw [14] (fun i wr => ∃ (k : Nat) (vs : List Value), k ≤ r ∧ i = .int .i64 k ∧ OwnM 183 214 wr w.heap.size wr.heap.size (.slice (some ⟨w.heap.size, 0, none⟩) r r) (mkM k c F ++ List.replicate (r - k) []) vs ∧ Below w.heap.size w wr)
    (fun i _ => r - (intOf i).toNat)
  case atStart => exact ⟨0, _, Nat.zero_le _, rfl, hM1, hb1⟩
  case round =>
    obtain ⟨k, vs, hk, rfl, hM, hb⟩ := hrel
    clear hM1 hb1
    by_cases hlt : k < r
    · have hki : (k : Int) < (r : Int) := by omega
      go_wp2_with (at_make; refine wpList_make_full _ rfl _ _ _ rfl wr.heap.size _ i1 _ 1 Tryd.underlying214 hi1 hy0 hy1 _ _ _ _ c rfl rfl rfl rfl ?d2 ?d3 ?d4 ?_)
      case d2 => rw [hy2]; omega
      case d3 => unfold maxLen; omega
      case d4 => exact Nat.le_refl _
      intro w2 hown2 hg2
      rw [toList_madeCells_one] at hown2
      have hs2 := hg2.size
      have k2 : TurnIn 0 0 wr w2 := TurnIn.of_grown hg2 (by simp)
      have hM2 := hM.keep k2 (by omega)
      have hb2 : Below w.heap.size w w2 := k2.base hb (by have := hb.size; omega) (by omega)
      obtain ⟨u0, hu0, _⟩ := hM2.at k (by simp; omega)
      have hco := hM2.cellAt hu0
      have hfr := hM2.frozenAt k
      have hrow : OwnBytes 183 w2 wr.heap.size w2.heap.size (.slice (some ⟨wr.heap.size, 0, none⟩) c c) (mkRow c fun j => if j < 0 then F k j else 0) := by
        refine OwnBytes.of_made ?_
        rw [bys_zero c _ (fun j _ => if_neg (by omega))]
        simpa using hown2
      have hM3 := (hM2.put (k := k) (by simp [mkM]; omega) (by simp; omega) hrow (by omega) (by have := hb.size; omega) hs2).congr (L' := mkM k c F ++ (mkRow c fun j => if j < 0 then F k j else 0) :: List.replicate (r - k - 1) []) (by
        have e : List.replicate (r - k) ([] : List UInt8) = [] :: List.replicate (r - k - 1) [] := by
          rw [← List.replicate_succ]; congr 1; omega
        rw [e, set_mid _ _ _ _ _ (mkM_length k c F)])
      have hvs : (vs.set k (.slice (some ⟨wr.heap.size, 0, none⟩) c c))[k]? = some (.slice (some ⟨wr.heap.size, 0, none⟩) c c) := by
        have := (List.getElem?_eq_some_iff.1 hu0).1
        simp [this]
      have HVS := Lib.hid hvs
      have hb3 : Below w.heap.size w (w2.setCell ⟨w.heap.size, k, none⟩ (.slice (some ⟨wr.heap.size, 0, none⟩) c c)) := hb2.setCell (Nat.le_refl _) _
      have hc3 := hM3.cellAt hvs
      have hwr : w.heap.size ≤ wr.heap.size := hb.size
      clear hrow hM2 hown2 hg2 hb2 hM hb hvs k2
      generalize wr.heap.size = B at *
      generalize vs.set k (.slice (some ⟨B, 0, none⟩) c c) = vs1 at *
      go_wp2_with fail
      go_loopw [27] (fun i wq => ∃ m : Nat, m ≤ c ∧ i = .int .i64 m ∧ OwnM 183 214 wq w.heap.size wq.heap.size (.slice (some ⟨w.heap.size, 0, none⟩) r r) (mkM k c F ++ (mkRow c fun j => if j < m then F k j else 0) :: List.replicate (r - k - 1) []) vs1 ∧ Below w.heap.size w wq)
        (fun i _ => c - (intOf i).toNat)
      case atStart => exact ⟨0, Nat.zero_le _, rfl, by simpa using hM3, hb3⟩
      case round =>
        obtain ⟨m, hm, rfl, hM, hb⟩ := hrel
        clear hM3 hb3 hc3 hfr hco
        by_cases hlm : m < c
        · have hmi : (m : Int) < (c : Int) := by omega
          have hco := hM.cellAt HVS.out
          have hrow := hM.rows k _ HVS.out
          rw [getD_mid _ _ _ _ _ (mkM_length k c F)] at hrow
          have hcx := hrow.cellAt (k := m) (by rw [mkRow_length]; exact hlm)
          have hfr := hrow.frozenAt m
          have hst := fun q => ((hM.drewN q).store (j := m) (x := F k m) (k := k) (by rw [List.length_append, mkM_length, List.length_cons]; omega) HVS.out).congr (L' := mkM k c F ++ (mkRow c fun j => if j < m + 1 then F k j else 0) :: List.replicate (r - k - 1) []) (by
            rw [getD_mid _ _ _ _ _ (mkM_length k c F), set_mid _ _ _ _ _ (mkM_length k c F), mkRow_set]
            congr 2
            apply mkRow_congr
            intro j hj
            by_cases e : j = m
            · subst e; simp
            · rw [if_neg e]
              by_cases h2 : j < m
              · rw [if_pos h2, if_pos (by omega)]
              · rw [if_neg h2, if_neg (by omega)])
          have hcall := fun W (hW : Below w.heap.size w W) => HAT.out W k m hW hlt hlm
          have HST := Lib.hid hst
          have HCALL := Lib.hid hcall
          have hne : w.heap.size ≠ B := fun e => (hM.apart k _ B HVS.out rfl).1 (by rw [e]; rfl)
          have hne' : B ≠ w.heap.size := fun e => hne e.symm
          clear hcall hst
          go_wp2_with fail
          go_region_held3 (fun w' => w'.cell? ⟨w.heap.size, k, none⟩ = some (.slice (some ⟨B, 0, none⟩) c c))
            (first | go_keep)
            ((go_at_fn g; refine (HCALL.out _ (by first | assumption | exact below_drewN hb _)).mono ?_; rintro e w' ⟨rfl, q, rfl⟩))
          go_wp2_with fail
          go_roundw
          case rel => exact ⟨m + 1, by omega, by go_num, by simpa using HST.out (1 + q), (below_drewN hb _).setCell hwr _⟩
          case measure => simp [intOf]; omega
        · obtain rfl : m = c := by omega
          have hmi : ¬ (m : Int) < (m : Int) := by omega
          go_wp2_with fail
          go_roundw
          case rel => exact ⟨k + 1, vs1, by omega, by go_num, hM.congr (by
            rw [mkM_succ, List.append_assoc, show r - (k + 1) = r - k - 1 by omega]
            congr 2
            exact mkRow_congr fun j hj => if_pos hj), hb⟩
          case measure => simp [intOf]; omega
    · obtain rfl : k = r := by omega
      have hki : ¬ (k : Int) < (k : Int) := by omega
      go_wp2_with fail
      go_ret
      refine ⟨_, vs, rfl, ?_, TurnIn.of_below hb⟩
      rw [Nat.sub_self] at hM
      simpa using hM

end Go.Proofs.YtlkoafnlklhaeaaDoor

/- identityGrid and converted, on bytes and on field bytes. -/
namespace Go.Proofs.YtlkoafnlklhaeaaDoor
open Go.RowKit G294

set_option maxHeartbeats 1000000 in
theorem identAtB (r c B : Nat) (w : World) (hB : B < w.heap.size) (hv : w.cell? ⟨B, 0, none⟩ = some (.int .u8 1)) :
    GivesAt Tryd.prog 195 #[.pointer (some ⟨B, 0, none⟩)] r c idF w := by
  intro W i j hb hi hj
  have hv' := (hb.cell (p := ⟨B, 0, none⟩) hB).trans hv
  clear hv
  by_cases he : i = j
  · have hbb : ((i : Int) == (j : Int)) = true := by simp [he]
    have HF : Hid (idF i j = 1) := by show idF i j = 1; simp [idF, he]
    clear he
    go_enter Tryd.func195, Tryd.ntmps195
    go_wp2_with fail
    go_ret
    exact ⟨by rw [HF.out]; rfl, 0, rfl⟩
  · have hbb : ((i : Int) == (j : Int)) = false := by simp; omega
    have HF : Hid (idF i j = 0) := by show idF i j = 0; simp [idF, he]
    clear he
    go_enter Tryd.func195, Tryd.ntmps195
    go_wp2_with fail
    go_ret
    exact ⟨by rw [HF.out]; rfl, 0, rfl⟩

set_option maxHeartbeats 1000000 in
theorem identityGridB (n : Nat) (w : World) (hn : n ≤ 1000) :
    Calls Tryd.prog 164 #[.int .i64 n, .int .u8 1] w (RetM 5 24 w (mkM n n idF)) := by
  have hb1 : Below w.heap.size w (w.alloc (.cells #[.int .u8 1] 5)) := (Below.refl _ _).alloc (Nat.le_refl _) _
  have HG := Lib.hid (identAtB n n w.heap.size (w.alloc (.cells #[.int .u8 1] 5)) (by simp) (by simp))
  have eg := enters_of Tryd.func195 (by kernel_rfl) rfl
  have HB1 := Lib.hid hb1
  clear hb1
  go_enter Tryd.func164, Tryd.ntmps164
  go_wp2_with fail
  refine (newGridB n n _ _ _ _ eg HG.out hn hn).mono ?_
  rintro e w' ⟨v', vs', rfl, hM, ht⟩
  go_wp2_with fail
  go_ret
  exact RetM.base ⟨_, _, rfl, hM, ht⟩ HB1.out

set_option maxHeartbeats 400000 in
theorem toB (x : UInt8) (w : World) : Calls Tryd.prog 189 #[.int .u8 (x.toNat : Int)] w fun e w' => e = .returned (.int .u8 (x.toNat : Int)) ∧ w = w' := by
  go_enter Tryd.func189, Tryd.ntmps189
  go_wp2_with fail
  go_ret
  exact ⟨rfl, rfl⟩

set_option maxHeartbeats 1000000 in
theorem convertedAtB (r c Bt Bg : Nat) (F : Ents) (v : Value) (w : World) (hBt : Bt < w.heap.size) (hBg : Bg < w.heap.size) (hvt : w.cell? ⟨Bt, 0, none⟩ = some (.func (.func 189) #[] #[])) (hv : w.cell? ⟨Bg, 0, none⟩ = some v) (hs : SeenM w v (mkM r c F)) :
    GivesAt Tryd.prog 205 #[.pointer (some ⟨Bt, 0, none⟩), .pointer (some ⟨Bg, 0, none⟩)] r c F w := by
  intro W i j hb hi hj
  have hv' := (hb.cell (p := ⟨Bg, 0, none⟩) hBg).trans hv
  have hvt' := (hb.cell (p := ⟨Bt, 0, none⟩) hBt).trans hvt
  obtain ⟨bb, off, cp, b', off', c', rfl, hl1, h1, h2, h3, hl2, h4⟩ := (hs.below hb).cellF i j hi hj
  unfold maxLen at hl1 hl2
  have hi0 : (0 : Int) ≤ (i : Int) := Int.natCast_nonneg _
  have hj0 : (0 : Int) ≤ (j : Int) := Int.natCast_nonneg _
  have hi' : (i : Int) < (r : Int) := by omega
  have hj' : (j : Int) < (c : Int) := by omega
  clear hv hs hvt
  go_enter Tryd.func205, Tryd.ntmps205
  go_wp2_with fail
  go_quiet ((go_at_call 189; exact quietly (toB _ _)))
  go_wp2_with fail
  go_ret
  exact ⟨rfl, _, rfl⟩

set_option maxHeartbeats 1000000 in
theorem convertedB (r c : Nat) (F : Ents) (v : Value) (w : World) (hs : SeenM w v (mkM r c F)) (hr : 1 ≤ r) (hr2 : r ≤ 1000) (hc : c ≤ 1000) :
    Calls Tryd.prog 188 #[v, .func (.func 189) #[] #[]] w (RetM 183 214 w (mkM r c F)) := by
  have hb0 : Below w.heap.size w (w.alloc (.cells #[v] 194)) := (Below.refl _ _).alloc (Nat.le_refl _) _
  have hb1 : Below w.heap.size w ((w.alloc (.cells #[v] 194)).alloc (.cells #[.func (.func 189) #[] #[]] 216)) := hb0.alloc (by simp) _
  have hG := convertedAtB r c (w.heap.size + 1) w.heap.size F v ((w.alloc (.cells #[v] 194)).alloc (.cells #[.func (.func 189) #[] #[]] 216)) (by simp) (by simp; omega) (by simp) (by simp) (hs.below hb1)
  have HG := Lib.hid hG
  obtain ⟨bb, off, cp, A, c', rfl, hl1, h1, h2, hl2, h3⟩ := hs.rowF 0 (by omega)
  have eg := enters_of Tryd.func205 (by kernel_rfl) rfl
  have HB1 := Lib.hid hb1
  unfold maxLen at hl1 hl2
  rw [Nat.add_zero] at h2
  have h0 : 0 < r := hr
  have hne : bb ≠ w.heap.size := by omega
  have hne' : w.heap.size ≠ bb := by omega
  have hq1 : ((w.alloc (.cells #[.slice (some ⟨bb, off, none⟩) r cp] 194)).alloc (.cells #[.func (.func 189) #[] #[]] 216)).cell? ⟨w.heap.size, 0, none⟩ = some (.slice (some ⟨bb, off, none⟩) r cp) := by simp
  have hq2 : ((w.alloc (.cells #[.slice (some ⟨bb, off, none⟩) r cp] 194)).alloc (.cells #[.func (.func 189) #[] #[]] 216)).cell? ⟨bb, off, none⟩ = some (.slice A c c') := (HB1.out.cell (p := ⟨bb, off, none⟩) h1).trans h2
  have hsz : w.heap.size < ((w.alloc (.cells #[.slice (some ⟨bb, off, none⟩) r cp] 194)).alloc (.cells #[.func (.func 189) #[] #[]] 216)).heap.size := by simp; omega
  clear hG hb1 hb0
  go_enter Tryd.func188, Tryd.ntmps188
  go_wp2_with fail
  generalize ((w.alloc (.cells #[.slice (some ⟨bb, off, none⟩) r cp] 194)).alloc (.cells #[.func (.func 189) #[] #[]] 216)) = w1 at *
  go_region_held3 (fun w' => w'.cell? ⟨w.heap.size, 0, none⟩ = some (.slice (some ⟨bb, off, none⟩) r cp) ∧ w'.cell? ⟨bb, off, none⟩ = some (.slice A c c'))
    (first | exact ⟨hq1, hq2⟩ | exact ⟨q1, q2⟩)
    ((go_at_call 152; refine (newGridF r c _ _ _ w1.drew eg (HG.out.later (Below.refl _ _).drew) (by omega) (by omega)).mono ?_; rintro e w' ⟨v', vs', rfl, hM, ht⟩; have q1 := (ht.to_below.cell (p := ⟨w.heap.size, 0, none⟩) hsz).trans hq1; have q2 := (ht.to_below.cell (p := ⟨bb, off, none⟩) (Nat.lt_trans h1 hsz)).trans hq2))
  go_wp2_with fail
  go_ret
  exact RetM.base ⟨_, _, rfl, hM, ht⟩ HB1.out.drew

set_option maxHeartbeats 400000 in
theorem toF (x : UInt8) (w : World) : Calls Tryd.prog 191 #[.int .u8 (x.toNat : Int)] w fun e w' => e = .returned (.int .u8 (x.toNat : Int)) ∧ w = w' := by
  go_enter Tryd.func191, Tryd.ntmps191
  go_wp2_with fail
  go_ret
  exact ⟨rfl, rfl⟩

set_option maxHeartbeats 1000000 in
theorem convertedAtF (r c Bt Bg : Nat) (F : Ents) (v : Value) (w : World) (hBt : Bt < w.heap.size) (hBg : Bg < w.heap.size) (hvt : w.cell? ⟨Bt, 0, none⟩ = some (.func (.func 191) #[] #[])) (hv : w.cell? ⟨Bg, 0, none⟩ = some v) (hs : SeenM w v (mkM r c F)) :
    GivesAt Tryd.prog 206 #[.pointer (some ⟨Bt, 0, none⟩), .pointer (some ⟨Bg, 0, none⟩)] r c F w := by
  intro W i j hb hi hj
  have hv' := (hb.cell (p := ⟨Bg, 0, none⟩) hBg).trans hv
  have hvt' := (hb.cell (p := ⟨Bt, 0, none⟩) hBt).trans hvt
  obtain ⟨bb, off, cp, b', off', c', rfl, hl1, h1, h2, h3, hl2, h4⟩ := (hs.below hb).cellF i j hi hj
  unfold maxLen at hl1 hl2
  have hi0 : (0 : Int) ≤ (i : Int) := Int.natCast_nonneg _
  have hj0 : (0 : Int) ≤ (j : Int) := Int.natCast_nonneg _
  have hi' : (i : Int) < (r : Int) := by omega
  have hj' : (j : Int) < (c : Int) := by omega
  clear hv hs hvt
  go_enter Tryd.func206, Tryd.ntmps206
  go_wp2_with fail
  go_quiet ((go_at_call 191; exact quietly (toF _ _)))
  go_wp2_with fail
  go_ret
  exact ⟨rfl, _, rfl⟩

set_option maxHeartbeats 1000000 in
theorem convertedF (r c : Nat) (F : Ents) (v : Value) (w : World) (hs : SeenM w v (mkM r c F)) (hr : 1 ≤ r) (hr2 : r ≤ 1000) (hc : c ≤ 1000) :
    Calls Tryd.prog 190 #[v, .func (.func 191) #[] #[]] w (RetM 5 24 w (mkM r c F)) := by
  have hb0 : Below w.heap.size w (w.alloc (.cells #[v] 181)) := (Below.refl _ _).alloc (Nat.le_refl _) _
  have hb1 : Below w.heap.size w ((w.alloc (.cells #[v] 181)).alloc (.cells #[.func (.func 191) #[] #[]] 218)) := hb0.alloc (by simp) _
  have hG := convertedAtF r c (w.heap.size + 1) w.heap.size F v ((w.alloc (.cells #[v] 181)).alloc (.cells #[.func (.func 191) #[] #[]] 218)) (by simp) (by simp; omega) (by simp) (by simp) (hs.below hb1)
  have HG := Lib.hid hG
  obtain ⟨bb, off, cp, A, c', rfl, hl1, h1, h2, hl2, h3⟩ := hs.rowF 0 (by omega)
  have eg := enters_of Tryd.func206 (by kernel_rfl) rfl
  have HB1 := Lib.hid hb1
  unfold maxLen at hl1 hl2
  rw [Nat.add_zero] at h2
  have h0 : 0 < r := hr
  have hne : bb ≠ w.heap.size := by omega
  have hne' : w.heap.size ≠ bb := by omega
  have hq1 : ((w.alloc (.cells #[.slice (some ⟨bb, off, none⟩) r cp] 181)).alloc (.cells #[.func (.func 191) #[] #[]] 218)).cell? ⟨w.heap.size, 0, none⟩ = some (.slice (some ⟨bb, off, none⟩) r cp) := by simp
  have hq2 : ((w.alloc (.cells #[.slice (some ⟨bb, off, none⟩) r cp] 181)).alloc (.cells #[.func (.func 191) #[] #[]] 218)).cell? ⟨bb, off, none⟩ = some (.slice A c c') := (HB1.out.cell (p := ⟨bb, off, none⟩) h1).trans h2
  have hsz : w.heap.size < ((w.alloc (.cells #[.slice (some ⟨bb, off, none⟩) r cp] 181)).alloc (.cells #[.func (.func 191) #[] #[]] 218)).heap.size := by simp; omega
  clear hG hb1 hb0
  go_enter Tryd.func190, Tryd.ntmps190
  go_wp2_with fail
  generalize ((w.alloc (.cells #[.slice (some ⟨bb, off, none⟩) r cp] 181)).alloc (.cells #[.func (.func 191) #[] #[]] 218)) = w1 at *
  go_region_held3 (fun w' => w'.cell? ⟨w.heap.size, 0, none⟩ = some (.slice (some ⟨bb, off, none⟩) r cp) ∧ w'.cell? ⟨bb, off, none⟩ = some (.slice A c c'))
    (first | exact ⟨hq1, hq2⟩ | exact ⟨q1, q2⟩)
    ((go_at_call 166; refine (newGridB r c _ _ _ w1.drew eg (HG.out.later (Below.refl _ _).drew) (by omega) (by omega)).mono ?_; rintro e w' ⟨v', vs', rfl, hM, ht⟩; have q1 := (ht.to_below.cell (p := ⟨w.heap.size, 0, none⟩) hsz).trans hq1; have q2 := (ht.to_below.cell (p := ⟨bb, off, none⟩) (Nat.lt_trans h1 hsz)).trans hq2))
  go_wp2_with fail
  go_ret
  exact RetM.base ⟨_, _, rfl, hM, ht⟩ HB1.out.drew

end Go.Proofs.YtlkoafnlklhaeaaDoor

/- turned and identityGrid, on bytes and on field bytes. -/
namespace Go.Proofs.YtlkoafnlklhaeaaDoor
open Go.RowKit G294

set_option maxHeartbeats 1000000 in
theorem turnedAtB (r c B : Nat) (F : Ents) (v : Value) (w : World) (hB : B < w.heap.size) (hv : w.cell? ⟨B, 0, none⟩ = some v) (hs : SeenM w v (mkM r c F)) :
    GivesAt Tryd.prog 207 #[.pointer (some ⟨B, 0, none⟩)] c r (fun i j => F j i) w := by
  intro W i j hb hi hj
  have hv' := (hb.cell (p := ⟨B, 0, none⟩) hB).trans hv
  obtain ⟨bb, off, cp, b', off', c', rfl, hl1, h1, h2, h3, hl2, h4⟩ := (hs.below hb).cellF j i hj hi
  unfold maxLen at hl1 hl2
  have hi' : (i : Int) < (c : Int) := by omega
  have hj' : (j : Int) < (r : Int) := by omega
  clear hv hs
  go_enter Tryd.func207, Tryd.ntmps207
  go_wp2_with fail
  go_ret
  exact ⟨rfl, 0, rfl⟩

set_option maxHeartbeats 1000000 in
theorem turnedB (r c : Nat) (F : Ents) (v : Value) (w : World) (hs : SeenM w v (mkM r c F)) (hr : 1 ≤ r) (hr2 : r ≤ 1000) (hc : c ≤ 1000) :
    Calls Tryd.prog 194 #[v] w (RetM 5 24 w (mkM c r fun i j => F j i)) := by
  have hb1 : Below w.heap.size w (w.alloc (.cells #[v] 194)) := (Below.refl _ _).alloc (Nat.le_refl _) _
  have hG := turnedAtB r c w.heap.size F v (w.alloc (.cells #[v] 194)) (by simp) (by simp) (hs.below hb1)
  have HG := Lib.hid hG
  obtain ⟨bb, off, cp, A, c', rfl, hl1, h1, h2, hl2, h3⟩ := hs.rowF 0 (by omega)
  have eg := enters_of Tryd.func207 (by kernel_rfl) rfl
  have HB1 := Lib.hid hb1
  unfold maxLen at hl1 hl2
  rw [Nat.add_zero] at h2
  have h0 : 0 < r := hr
  have hne : bb ≠ w.heap.size := by omega
  have hne' : w.heap.size ≠ bb := by omega
  have hq1 : (w.alloc (.cells #[.slice (some ⟨bb, off, none⟩) r cp] 194)).cell? ⟨w.heap.size, 0, none⟩ = some (.slice (some ⟨bb, off, none⟩) r cp) := by simp
  have hq2 : (w.alloc (.cells #[.slice (some ⟨bb, off, none⟩) r cp] 194)).cell? ⟨bb, off, none⟩ = some (.slice A c c') := (HB1.out.cell (p := ⟨bb, off, none⟩) h1).trans h2
  have hsz : w.heap.size < (w.alloc (.cells #[.slice (some ⟨bb, off, none⟩) r cp] 194)).heap.size := by simp
  clear hG hb1
  go_enter Tryd.func194, Tryd.ntmps194
  go_wp2_with fail
  generalize w.alloc (.cells #[.slice (some ⟨bb, off, none⟩) r cp] 194) = w1 at *
  go_region_held3 (fun w' => w'.cell? ⟨w.heap.size, 0, none⟩ = some (.slice (some ⟨bb, off, none⟩) r cp) ∧ w'.cell? ⟨bb, off, none⟩ = some (.slice A c c'))
    (first | exact ⟨hq1, hq2⟩ | exact ⟨q1, q2⟩)
    ((go_at_call 166; refine (newGridB c r _ _ _ w1.drew eg (HG.out.later (Below.refl _ _).drew) (by omega) (by omega)).mono ?_; rintro e w' ⟨v', vs', rfl, hM, ht⟩; have q1 := (ht.to_below.cell (p := ⟨w.heap.size, 0, none⟩) hsz).trans hq1; have q2 := (ht.to_below.cell (p := ⟨bb, off, none⟩) (Nat.lt_trans h1 hsz)).trans hq2))
  go_wp2_with fail
  go_ret
  exact RetM.base ⟨_, _, rfl, hM, ht⟩ HB1.out.drew

set_option maxHeartbeats 1000000 in
theorem turnedAtF (r c B : Nat) (F : Ents) (v : Value) (w : World) (hB : B < w.heap.size) (hv : w.cell? ⟨B, 0, none⟩ = some v) (hs : SeenM w v (mkM r c F)) :
    GivesAt Tryd.prog 192 #[.pointer (some ⟨B, 0, none⟩)] c r (fun i j => F j i) w := by
  intro W i j hb hi hj
  have hv' := (hb.cell (p := ⟨B, 0, none⟩) hB).trans hv
  obtain ⟨bb, off, cp, b', off', c', rfl, hl1, h1, h2, h3, hl2, h4⟩ := (hs.below hb).cellF j i hj hi
  unfold maxLen at hl1 hl2
  have hi' : (i : Int) < (c : Int) := by omega
  have hj' : (j : Int) < (r : Int) := by omega
  clear hv hs
  go_enter Tryd.func192, Tryd.ntmps192
  go_wp2_with fail
  go_ret
  exact ⟨rfl, 0, rfl⟩

set_option maxHeartbeats 1000000 in
theorem turnedF (r c : Nat) (F : Ents) (v : Value) (w : World) (hs : SeenM w v (mkM r c F)) (hr : 1 ≤ r) (hr2 : r ≤ 1000) (hc : c ≤ 1000) :
    Calls Tryd.prog 157 #[v] w (RetM 183 214 w (mkM c r fun i j => F j i)) := by
  have hb1 : Below w.heap.size w (w.alloc (.cells #[v] 181)) := (Below.refl _ _).alloc (Nat.le_refl _) _
  have hG := turnedAtF r c w.heap.size F v (w.alloc (.cells #[v] 181)) (by simp) (by simp) (hs.below hb1)
  have HG := Lib.hid hG
  obtain ⟨bb, off, cp, A, c', rfl, hl1, h1, h2, hl2, h3⟩ := hs.rowF 0 (by omega)
  have eg := enters_of Tryd.func192 (by kernel_rfl) rfl
  have HB1 := Lib.hid hb1
  unfold maxLen at hl1 hl2
  rw [Nat.add_zero] at h2
  have h0 : 0 < r := hr
  have hne : bb ≠ w.heap.size := by omega
  have hne' : w.heap.size ≠ bb := by omega
  have hq1 : (w.alloc (.cells #[.slice (some ⟨bb, off, none⟩) r cp] 181)).cell? ⟨w.heap.size, 0, none⟩ = some (.slice (some ⟨bb, off, none⟩) r cp) := by simp
  have hq2 : (w.alloc (.cells #[.slice (some ⟨bb, off, none⟩) r cp] 181)).cell? ⟨bb, off, none⟩ = some (.slice A c c') := (HB1.out.cell (p := ⟨bb, off, none⟩) h1).trans h2
  have hsz : w.heap.size < (w.alloc (.cells #[.slice (some ⟨bb, off, none⟩) r cp] 181)).heap.size := by simp
  clear hG hb1
  go_enter Tryd.func157, Tryd.ntmps157
  go_wp2_with fail
  generalize w.alloc (.cells #[.slice (some ⟨bb, off, none⟩) r cp] 181) = w1 at *
  go_region_held3 (fun w' => w'.cell? ⟨w.heap.size, 0, none⟩ = some (.slice (some ⟨bb, off, none⟩) r cp) ∧ w'.cell? ⟨bb, off, none⟩ = some (.slice A c c'))
    (first | exact ⟨hq1, hq2⟩ | exact ⟨q1, q2⟩)
    ((go_at_call 152; refine (newGridF c r _ _ _ w1.drew eg (HG.out.later (Below.refl _ _).drew) (by omega) (by omega)).mono ?_; rintro e w' ⟨v', vs', rfl, hM, ht⟩; have q1 := (ht.to_below.cell (p := ⟨w.heap.size, 0, none⟩) hsz).trans hq1; have q2 := (ht.to_below.cell (p := ⟨bb, off, none⟩) (Nat.lt_trans h1 hsz)).trans hq2))
  go_wp2_with fail
  go_ret
  exact RetM.base ⟨_, _, rfl, hM, ht⟩ HB1.out.drew

end Go.Proofs.YtlkoafnlklhaeaaDoor

/- GoodMatrix, the program's and the model's. -/
namespace G294
theorem goodI_nat (n : Nat) : goodI (n : Int) = decide (1 ≤ n ∧ n ≤ 16) := by
  unfold goodI; rw [decide_eq_decide]; omega
theorem goodM_no1 {L : Mat} (h : goodI L.length = false) : goodM L = false := by
  rw [goodI_nat] at h; simp at h
  rw [Bool.eq_false_iff]; intro e
  have := (goodM_iff L).1 e
  omega
theorem goodM_no2 {L : Mat} (h : goodI (wid L) = false) : goodM L = false := by
  rw [goodI_nat] at h; simp at h
  rw [Bool.eq_false_iff]; intro e
  have := (goodM_iff L).1 e
  omega
theorem goodM_no3 {L : Mat} {k : Nat} (hk : k < L.length) (h : (L.getD k []).length ≠ wid L) : goodM L = false := by
  rw [Bool.eq_false_iff]; intro e
  exact h (((goodM_iff L).1 e).2.2.2.2 k hk)
theorem goodM_yes {L : Mat} (h1 : goodI L.length = true) (h2 : goodI (wid L) = true) (h : ∀ i, i < L.length → (L.getD i []).length = wid L) : goodM L = true := by
  rw [goodI_nat] at h1 h2; simp at h1 h2
  exact (goodM_iff L).2 ⟨h1.1, h1.2, h2.1, h2.2, h⟩
end G294
namespace Go.Proofs.YtlkoafnlklhaeaaDoor
open Go.RowKit G294

set_option maxHeartbeats 400000 in
theorem goodSide_any (n : Int) (w : World) : Calls Tryd.prog 163 #[.int .i64 n] w fun e w' => e = .returned (.bool (goodI n)) ∧ w = w' := by
  by_cases h1 : 1 ≤ n
  · have hd : decide (1 ≤ n) = true := by simpa using h1
    by_cases h2 : n ≤ 16
    · have HV : Hid (goodI n = true) := by show goodI n = true; simp [goodI, h1, h2]
      go_enter Tryd.func163, Tryd.ntmps163
      go_wp2_with fail
      go_ret
      exact ⟨by rw [HV.out]; simp [h2], rfl⟩
    · have HV : Hid (goodI n = false) := by show goodI n = false; simp [goodI, h2]
      go_enter Tryd.func163, Tryd.ntmps163
      go_wp2_with fail
      go_ret
      exact ⟨by rw [HV.out]; simp [h2], rfl⟩
  · have hd : decide (1 ≤ n) = false := by simpa using h1
    have HV : Hid (goodI n = false) := by show goodI n = false; simp [goodI, h1]
    go_enter Tryd.func163, Tryd.ntmps163
    go_wp2_with fail
    go_ret
    exact ⟨by rw [HV.out]; rfl, rfl⟩

theorem l1In_side (n : Int) (w : World) : Calls Tryd.prog 67 #[.int .i64 n, .int .i64 1, .int .i64 16] w fun e w' => e = .returned (.bool (goodI n)) ∧ w = w' := l1In_any n 1 16 w

set_option maxRecDepth 100000 in
set_option maxHeartbeats 1000000 in
theorem igood_any (v : Value) (L : Mat) (w : World) (hs : SeenM w v L) :
    Calls Tryd.prog 177 #[.agg #[v]] w (RetBool w (goodM L)) := by
  have hb1 : Below w.heap.size w (w.alloc (.cells #[v] 70)) := (Below.refl _ _).alloc (Nat.le_refl _) _
  have HB1 := Lib.hid (TurnIn.of_below hb1)
  obtain ⟨A, c, rfl, hlc, hcm⟩ := hs.len
  unfold maxLen at hcm
  by_cases h1 : goodI L.length = true
  · have H1 := Lib.hid h1
    have hn : 1 ≤ L.length ∧ L.length ≤ 16 := by rw [goodI_nat] at h1; simpa using h1
    have HSM := Lib.hid hs
    obtain ⟨bb, off, c', u0, hv, _, _, hbl, hc0, hs0⟩ := hs.row 0 (by omega)
    obtain ⟨rfl, rfl⟩ : A = some ⟨bb, off, none⟩ ∧ c = c' := by simpa using hv
    obtain ⟨A0, c0, rfl, hl0, hm0, _⟩ := hs0
    rw [bys_length] at hc0 hl0
    rw [Nat.add_zero] at hc0
    unfold maxLen at hm0
    have hw1 : (w.alloc (.cells #[.slice (some ⟨bb, off, none⟩) L.length c] 70)).cell? ⟨bb, off, none⟩ = some (.slice A0 (L.getD 0 []).length c0) := (hb1.cell (p := ⟨bb, off, none⟩) hbl).trans hc0
    have hbx : (w.alloc (.cells #[.slice (some ⟨bb, off, none⟩) L.length c] 70)).cell? ⟨w.heap.size, 0, none⟩ = some (.slice (some ⟨bb, off, none⟩) L.length c) := by simp
    have HBW := Lib.hid hb1
    have hpos : 0 < L.length := by omega
    have hne : bb ≠ w.heap.size := by omega
    have HW : Hid (wid L = (L.getD 0 []).length) := rfl
    clear hv h1 hb1 hs
    generalize hll : L.length = n at *
    generalize hww : (L.getD 0 []).length = n0 at *
    have HLL := Lib.hid hll
    have HWW := Lib.hid hww
    clear hll hww
    by_cases h2 : goodI n0 = true
    · have H2 := Lib.hid h2
      clear h2
      go_enter Tryd.func177, Tryd.ntmps177
      go_wp2_with fail
      refine (goodSide_any _ _).mono ?_
      rintro e w' ⟨rfl, rfl⟩
      rw [H1.out]
      go_wp2_with fail
      refine (goodSide_any _ _).mono ?_
      rintro e w' ⟨rfl, rfl⟩
      rw [H2.out]
      go_wp2_with fail
      generalize w.alloc (.cells #[.slice (some ⟨bb, off, none⟩) n c] 70) = w1 at *
      go_loop [22] (fun i => ∃ k : Nat, k ≤ n ∧ i = .int .i64 k ∧ Hid (∀ i, i < k → (L.getD i []).length = n0)) (fun i => n - (intOf i).toNat)
      case atStart => exact ⟨0, Nat.zero_le _, rfl, fun i h => by omega⟩
      case round =>
        obtain ⟨k, hk, rfl, HK⟩ := hrel
        by_cases hlt : k < n
        · have hki : (k : Int) < (n : Int) := by omega
          obtain ⟨bb2, off2, c2, uk, hv, _, _, hbl2, hck, ⟨Ak, ck, rfl, hlk, hmk, _⟩⟩ := HSM.out.row k (by rw [HLL.out]; exact hlt)
          simp only [Value.slice.injEq, Option.some.injEq, Addr.mk.injEq, and_true] at hv
          obtain ⟨⟨rfl, rfl⟩, _, rfl⟩ := hv
          rw [bys_length] at hck hlk
          have hck' := (HBW.out.cell (p := ⟨bb, off + k, none⟩) hbl2).trans hck
          clear hck
          unfold maxLen at hmk
          by_cases he : (L.getD k []).length = n0
          · have hbb : (((L.getD k []).length : Int) != (n0 : Int)) = false := by rw [he]; simp
            have HK2 : Hid (∀ i, i < k + 1 → (L.getD i []).length = n0) := fun i hi => by
              by_cases e : i = k
              · rw [e]; exact he
              · exact HK.out i (by omega)
            clear he
            generalize (L.getD k []).length = nk at *
            go_wp2_with fail
            go_round
            case rel => exact ⟨k + 1, by omega, by go_num, HK2⟩
            case measure => simp [intOf]; omega
          · have hbb : (((L.getD k []).length : Int) != (n0 : Int)) = true := bne_iff_ne.2 (fun e => he (Int.natCast_inj.1 e))
            have HF := Lib.hid (goodM_no3 (L := L) (k := k) (by rw [HLL.out]; exact hlt) (by rw [HW.out]; exact he))
            clear he
            generalize (L.getD k []).length = nk at *
            go_wp2_with fail
            go_ret
            exact ⟨by rw [HF.out]; rfl, HB1.out⟩
        · obtain rfl : k = n := by omega
          have hki : ¬ (k : Int) < (k : Int) := by omega
          have HF := Lib.hid (goodM_yes (L := L) (by rw [HLL.out]; exact H1.out) (by rw [HW.out]; exact H2.out) (fun i hi => by rw [HW.out]; exact HK.out i (by rw [← HLL.out]; exact hi)))
          go_wp2_with fail
          go_ret
          exact ⟨by rw [HF.out]; rfl, HB1.out⟩
    · have H2 : Hid (goodI n0 = false) := by show goodI n0 = false; simpa using h2
      have HF := Lib.hid (goodM_no2 (L := L) (by rw [HW.out]; exact H2.out))
      clear h2
      go_enter Tryd.func177, Tryd.ntmps177
      go_wp2_with fail
      refine (goodSide_any _ _).mono ?_
      rintro e w' ⟨rfl, rfl⟩
      rw [H1.out]
      go_wp2_with fail
      refine (goodSide_any _ _).mono ?_
      rintro e w' ⟨rfl, rfl⟩
      rw [H2.out]
      go_wp2_with fail
      go_ret
      exact ⟨by rw [HF.out]; rfl, HB1.out⟩
  · have H1 : Hid (goodI L.length = false) := by show goodI L.length = false; simpa using h1
    have HF := Lib.hid (goodM_no1 H1.out)
    clear h1 hs hb1
    generalize L.length = n at *
    go_enter Tryd.func177, Tryd.ntmps177
    go_wp2_with fail
    refine (goodSide_any _ _).mono ?_
    rintro e w' ⟨rfl, rfl⟩
    rw [H1.out]
    go_wp2_with fail
    go_ret
    exact ⟨by rw [HF.out]; rfl, HB1.out⟩

end Go.Proofs.YtlkoafnlklhaeaaDoor

/- The program's Identity, Transposed, Vandermonde and Cauchy. -/
namespace G294
open Go Go.RowKit
theorem turn_setCell (w : World) (B o : Nat) (x : Value) : TurnIn B (B + 1) w (w.setCell ⟨B, o, none⟩ x) :=
  ⟨rfl, rfl, rfl, by simp, fun k hk hd => heap_setCell_other w ⟨B, o, none⟩ k x (by intro e; simp at e; omega)⟩
theorem cell_set_other (w : World) {B B' : Nat} (o o' : Nat) (x : Value) (h : B ≠ B') : (w.setCell ⟨B, o, none⟩ x).cell? ⟨B', o', none⟩ = w.cell? ⟨B', o', none⟩ :=
  World.cell?_of_block (heap_setCell_other w ⟨B, o, none⟩ B' x (by intro e; simp at e; omega))
theorem frozen_set_other (w : World) {B B' : Nat} (o o' : Nat) (x : Value) (h : B ≠ B') : (w.setCell ⟨B, o, none⟩ x).frozen? ⟨B', o', none⟩ = w.frozen? ⟨B', o', none⟩ :=
  World.frozen?_of_block (heap_setCell_other w ⟨B, o, none⟩ B' x (by intro e; simp at e; omega))
/-- a result is stored into a variable that the call made ahead of it -/
theorem ret_store {E EE : TypeId} {w w1 w' : World} {v : Value} {L : Mat} {vs : List Value} (hb : Below w.heap.size w w1) (hM : OwnM E EE w' w1.heap.size w'.heap.size v L vs) (ht : TurnIn 0 0 w1 w') (B o : Nat) (h1 : w.heap.size ≤ B) (h2 : B < w1.heap.size) (x : Value) :
    OwnM E EE (w'.setCell ⟨B, o, none⟩ x) w.heap.size (w'.setCell ⟨B, o, none⟩ x).heap.size v L vs ∧ TurnIn 0 0 w (w'.setCell ⟨B, o, none⟩ x) := by
  have k := turn_setCell w' B o x
  have hs := k.size
  refine ⟨(hM.keep k (by omega)).wider (by have := hb.size; omega) hs (Nat.le_refl _), TurnIn.of_below ?_⟩
  have h3 : Below w.heap.size w w' := ht.base hb hb.size (by omega)
  exact h3.setCell h1 _
theorem cell_turn {w w' : World} (t : TurnIn 0 0 w w') {B o : Nat} {x : Value} (h : w.cell? ⟨B, o, none⟩ = some x) (hB : B < w.heap.size) : w'.cell? ⟨B, o, none⟩ = some x := (t.to_below.cell (p := ⟨B, o, none⟩) hB).trans h
theorem frozen_turn {w w' : World} (t : TurnIn 0 0 w w') {B o : Nat} {x : Bool} (h : w.frozen? ⟨B, o, none⟩ = x) (hB : B < w.heap.size) : w'.frozen? ⟨B, o, none⟩ = x := (t.to_below.frozen (p := ⟨B, o, none⟩) hB).trans h
end G294
namespace Go.Proofs.YtlkoafnlklhaeaaDoor
open Go.RowKit G294

set_option maxHeartbeats 1000000 in
theorem identity_own (n : Int) (w : World) : Calls Tryd.prog 105 #[.int .i64 n] w (RetMatOk 5 24 w (idR n) (idOk n)) := by
  have hb1 : Below w.heap.size w (w.alloc (.cells #[.slice none 0 0] 70)) := (Below.refl _ _).alloc (Nat.le_refl _) _
  by_cases h : goodI n = true
  · have HO := Lib.hid h
    have h2 : 1 ≤ n ∧ n ≤ 16 := by simpa [goodI] using h
    obtain ⟨m, rfl⟩ := Int.eq_ofNat_of_zero_le (show 0 ≤ n by omega)
    have HR : Hid (idR m = mkM m m idF) := by show idR m = _; unfold idR; rw [if_pos HO.out]; simp
    clear h
    go_enter Tryd.func105, Tryd.ntmps105
    go_wp2_with fail
    refine (goodSide_any _ _).mono ?_
    rintro e w' ⟨rfl, rfl⟩
    rw [HO.out]
    go_wp2_with fail
    refine (identityGridB m _ (by omega)).mono ?_
    rintro e w' ⟨v', vs', rfl, hM, ht⟩
    obtain ⟨A', n', c', rfl⟩ := hM.isSlice
    have hq := cell_turn ht (B := w.heap.size) (o := 0) (x := .slice none 0 0) (by simp) (by simp)
    have hqf := frozen_turn ht (B := w.heap.size) (o := 0) (x := false) (by simp) (by simp)
    have HF := Lib.hid (ret_store hb1 hM ht w.heap.size 0 (Nat.le_refl _) (by simp) (.slice A' n' c'))
    clear hM ht hb1
    go_wp2_with fail
    refine bodyPost_ret (v := .tuple #[.agg #[.slice A' n' c'], .bool true]) (by simp [results, Tryd.results105, go_sem, hq]) rfl ?_
    exact ⟨.slice A' n' c', vs', by show _ = Ending.returned (.tuple #[.agg #[.slice A' n' c'], .bool (idOk m)]); unfold idOk; rw [HO.out], by rw [HR.out]; exact HF.out.1, HF.out.2⟩
  · have HO : Hid (goodI n = false) := by show goodI n = false; simpa using h
    have HR : Hid (idR n = []) := if_neg h
    clear h
    go_enter Tryd.func105, Tryd.ntmps105
    go_wp2_with fail
    refine (goodSide_any _ _).mono ?_
    rintro e w' ⟨rfl, rfl⟩
    rw [HO.out]
    go_wp2_with fail
    refine bodyPost_ret (v := .tuple #[.agg #[.slice none 0 0], .bool false]) (by simp [results, Tryd.results105, go_sem]) rfl ?_
    exact ⟨_, [], by unfold idOk; rw [HO.out], by rw [HR.out]; exact OwnM.nil _ _ _ _, TurnIn.of_below hb1⟩

set_option maxRecDepth 100000 in
set_option maxHeartbeats 1000000 in
theorem transposed_own (v : Value) (L : Mat) (w : World) (hs : SeenM w v L) : Calls Tryd.prog 159 #[.agg #[v]] w (RetMatOk 5 24 w (transR L) (goodM L)) := by
  have hb0 : Below w.heap.size w (w.alloc (.cells #[v] 70)) := (Below.refl _ _).alloc (Nat.le_refl _) _
  have hb2 : Below w.heap.size w ((w.alloc (.cells #[v] 70)).alloc (.cells #[.slice none 0 0] 70)) := hb0.alloc (by simp) _
  have HS := Lib.hid (hs.below hb2)
  obtain ⟨A, c, rfl, hlc, hcm⟩ := hs.len
  have HB := Lib.hid hb2
  have hsz : ((w.alloc (.cells #[.slice A L.length c] 70)).alloc (.cells #[.slice none 0 0] 70)).heap.size = w.heap.size + 2 := by simp
  have HSZ := Lib.hid hsz
  clear hb0 hb2 hs hsz
  by_cases hg : goodM L = true
  · have HG := Lib.hid hg
    have HL := Lib.hid (good_eq hg)
    have HR : Hid (transR L = mkM (wid L) L.length fun i j => ent L j i) := if_pos hg
    have hgg := (goodM_iff L).1 hg
    obtain ⟨g1, g2, g3, g4, _⟩ := hgg
    clear hg
    go_enter Tryd.func159, Tryd.ntmps159
    go_wp2_with fail
    refine (igood_any _ L _ HS.out).mono ?_
    rintro e w3 ⟨rfl, k3⟩
    rw [HG.out]
    have q0 := cell_turn k3 (B := w.heap.size) (o := 0) (x := .slice A L.length c) (by simp) (by rw [HSZ.out]; omega)
    have K3 := Lib.hid k3
    have HB3 := Lib.hid (k3.base HB.out (by rw [HSZ.out]; omega) (by omega))
    have HS3 := Lib.hid (show SeenM w3 (.slice A L.length c) (mkM L.length (wid L) (ent L)) from HL.out ▸ HS.out.touch k3)
    clear k3
    go_wp2_with fail
    refine (turnedB L.length (wid L) (ent L) _ _ HS3.out g1 (by omega) (by omega)).mono ?_
    rintro e w4 ⟨v', vs', rfl, hM, ht⟩
    obtain ⟨A', n', c', rfl⟩ := hM.isSlice
    have hs3 := K3.out.size
    rw [HSZ.out] at hs3
    have hq := cell_turn ht (cell_turn K3.out (B := w.heap.size + 1) (o := 0) (x := .slice none 0 0) (by simp) (by rw [HSZ.out]; omega)) (by omega)
    have hqf := frozen_turn ht (frozen_turn K3.out (B := w.heap.size + 1) (o := 0) (x := false) (by simp) (by rw [HSZ.out]; omega)) (by omega)
    have HF := Lib.hid (ret_store HB3.out hM ht (w.heap.size + 1) 0 (by omega) (by omega) (.slice A' n' c'))
    clear hM ht
    go_wp2_with fail
    refine bodyPost_ret (v := .tuple #[.agg #[.slice A' n' c'], .bool true]) (by simp [results, Tryd.results159, go_sem, hq]) rfl ?_
    exact ⟨.slice A' n' c', vs', by rw [HG.out], by rw [HR.out]; exact HF.out.1, HF.out.2⟩
  · have HG : Hid (goodM L = false) := by show goodM L = false; simpa using hg
    have HR : Hid (transR L = []) := if_neg hg
    clear hg
    go_enter Tryd.func159, Tryd.ntmps159
    go_wp2_with fail
    refine (igood_any _ L _ HS.out).mono ?_
    rintro e w3 ⟨rfl, k3⟩
    rw [HG.out]
    have hq := cell_turn k3 (B := w.heap.size + 1) (o := 0) (x := .slice none 0 0) (by simp) (by rw [HSZ.out]; omega)
    have hqf := frozen_turn k3 (B := w.heap.size + 1) (o := 0) (x := false) (by simp) (by rw [HSZ.out]; omega)
    have HB3 := Lib.hid (k3.base HB.out (by rw [HSZ.out]; omega) (by omega))
    clear k3
    go_wp2_with fail
    refine bodyPost_ret (v := .tuple #[.agg #[.slice none 0 0], .bool false]) (by simp [results, Tryd.results159, go_sem, hq]) rfl ?_
    exact ⟨_, [], by rw [HG.out], by rw [HR.out]; exact OwnM.nil _ _ _ _, TurnIn.of_below (HB3.out.setCell (Nat.le_succ _) _)⟩

theorem vand_u8 (i j : Nat) (hi : i < 256) : ((vandF i j).toNat : Int) = (gp i j : Nat) := by
  unfold vandF; rw [UInt8.toNat_ofNat', Nat.mod_eq_of_lt (gp_lt hi j)]

theorem cau_u8 (c i j : Nat) (h1 : c + i < 256) (h2 : j < 256) : ((cauF c i j).toNat : Int) = (gi ((c + i) ^^^ j) : Nat) := by
  unfold cauF; rw [UInt8.toNat_ofNat', Nat.mod_eq_of_lt (gi_lt (xor_lt h1 h2))]

set_option maxHeartbeats 1000000 in
theorem cauAt (r c B : Nat) (w : World) (hr : r ≤ 16) (hc : c ≤ 16) (hB : B < w.heap.size) (hv : w.cell? ⟨B, 0, none⟩ = some (.int .i64 c)) (ht : Tab w) (h0 : 1 < w.heap.size) :
    GivesAt Tryd.prog 167 #[.pointer (some ⟨B, 0, none⟩)] r c (cauF c) w := by
  intro W i j hb hi hj
  have hv' := (hb.cell (p := ⟨B, 0, none⟩) hB).trans hv
  have htW : Tab W := ht.below hb h0
  have HV := Lib.hid (cau_u8 c i j (by omega) (by omega))
  have HX : Hid (bits BinOp.xor IntKind.u8 ((c : Int) + (i : Int)) (j : Int) = (((c + i) ^^^ j : Nat) : Int)) := by
    show bits BinOp.xor IntKind.u8 ((c : Int) + (i : Int)) (j : Int) = _
    rw [← Int.natCast_add]; exact u8_xor_nat (c + i) j (by omega) (by omega)
  clear ht hv
  go_enter Tryd.func167, Tryd.ntmps167
  go_wp2_with fail
  rw [HX.out]
  refine (inverse_any ((c + i) ^^^ j) (xor_lt (by omega) (by omega)) _ htW).mono ?_
  rintro e w' ⟨rfl, rfl⟩
  go_wp2_with fail
  go_ret
  exact ⟨by rw [HV.out]; rfl, 0, rfl⟩

set_option maxRecDepth 100000 in
set_option maxHeartbeats 1000000 in
theorem cauchy_own (n m : Int) (w : World) (ht : Tab w) (h0 : 1 < w.heap.size) :
    Calls Tryd.prog 109 #[.int .i64 n, .int .i64 m] w (RetMatOk 5 24 w (cauR n m) (sidesOk n m)) := by
  have hb0 : Below w.heap.size w (w.alloc (.cells #[.int .i64 m] 3)) := (Below.refl _ _).alloc (Nat.le_refl _) _
  have hb1 : Below w.heap.size w ((w.alloc (.cells #[.int .i64 m] 3)).alloc (.cells #[.slice none 0 0] 70)) := hb0.alloc (by simp) _
  have HT := Lib.hid (ht.below hb1 h0)
  have HOdef : Hid (sidesOk n m = (goodI n && goodI m)) := rfl
  clear ht hb0
  by_cases h : goodI n = true
  · have H1 := Lib.hid h
    by_cases h' : goodI m = true
    · have H2 := Lib.hid h'
      have HO : Hid (sidesOk n m = true) := by show sidesOk n m = true; rw [HOdef.out, h, h']; rfl
      have b1 : 1 ≤ n ∧ n ≤ 16 := by simpa [goodI] using h
      have b2 : 1 ≤ m ∧ m ≤ 16 := by simpa [goodI] using h'
      obtain ⟨r, rfl⟩ := Int.eq_ofNat_of_zero_le (show 0 ≤ n by omega)
      obtain ⟨c, rfl⟩ := Int.eq_ofNat_of_zero_le (show 0 ≤ m by omega)
      have HR : Hid (cauR r c = mkM r c (cauF c)) := by show cauR r c = _; unfold cauR; rw [if_pos HO.out]; simp
      have eg := enters_of Tryd.func167 (by kernel_rfl) rfl
      have HG := Lib.hid (cauAt r c w.heap.size _ (by omega) (by omega) (by simp; omega) (by simp) HT.out (by simp <;> omega))
      clear h h'
      go_enter Tryd.func109, Tryd.ntmps109
      go_wp2_with fail
      refine (goodSide_any _ _).mono ?_
      rintro e w' ⟨rfl, rfl⟩
      rw [H1.out]
      go_wp2_with fail
      refine (goodSide_any _ _).mono ?_
      rintro e w' ⟨rfl, rfl⟩
      rw [H2.out]
      go_wp2_with fail
      refine (newGridB r c _ _ _ _ eg HG.out (by omega) (by omega)).mono ?_
      rintro e w' ⟨v', vs', rfl, hM, ht⟩
      obtain ⟨A', n', c', rfl⟩ := hM.isSlice
      have hq := cell_turn ht (B := w.heap.size + 1) (o := 0) (x := .slice none 0 0) (by simp) (by simp)
      have hqf := frozen_turn ht (B := w.heap.size + 1) (o := 0) (x := false) (by simp) (by simp)
      have HF := Lib.hid (ret_store hb1 hM ht (w.heap.size + 1) 0 (Nat.le_succ _) (by simp) (.slice A' n' c'))
      clear hM ht hb1
      go_wp2_with fail
      refine bodyPost_ret (v := .tuple #[.agg #[.slice A' n' c'], .bool true]) (by simp [results, Tryd.results109, go_sem, hq]) rfl ?_
      exact ⟨.slice A' n' c', vs', by rw [HO.out], by rw [HR.out]; exact HF.out.1, HF.out.2⟩
    · have H2 : Hid (goodI m = false) := by show goodI m = false; simpa using h'
      have HO : Hid (sidesOk n m = false) := by show sidesOk n m = false; rw [HOdef.out, H2.out]; simp
      have HR : Hid (cauR n m = []) := if_neg (by rw [HO.out]; simp)
      clear h h'
      go_enter Tryd.func109, Tryd.ntmps109
      go_wp2_with fail
      refine (goodSide_any _ _).mono ?_
      rintro e w' ⟨rfl, rfl⟩
      rw [H1.out]
      go_wp2_with fail
      refine (goodSide_any _ _).mono ?_
      rintro e w' ⟨rfl, rfl⟩
      rw [H2.out]
      go_wp2_with fail
      refine bodyPost_ret (v := .tuple #[.agg #[.slice none 0 0], .bool false]) (by simp [results, Tryd.results109, go_sem]) rfl ?_
      exact ⟨_, [], by rw [HO.out], by rw [HR.out]; exact OwnM.nil _ _ _ _, TurnIn.of_below hb1⟩
  · have H1 : Hid (goodI n = false) := by show goodI n = false; simpa using h
    have HO : Hid (sidesOk n m = false) := by show sidesOk n m = false; rw [HOdef.out, H1.out]; simp
    have HR : Hid (cauR n m = []) := if_neg (by rw [HO.out]; simp)
    clear h
    go_enter Tryd.func109, Tryd.ntmps109
    go_wp2_with fail
    refine (goodSide_any _ _).mono ?_
    rintro e w' ⟨rfl, rfl⟩
    rw [H1.out]
    go_wp2_with fail
    refine bodyPost_ret (v := .tuple #[.agg #[.slice none 0 0], .bool false]) (by simp [results, Tryd.results109, go_sem]) rfl ?_
    exact ⟨_, [], by rw [HO.out], by rw [HR.out]; exact OwnM.nil _ _ _ _, TurnIn.of_below hb1⟩
end Go.Proofs.YtlkoafnlklhaeaaDoor

/- The model's l2Blank. -/
namespace Go.Proofs.YtlkoafnlklhaeaaDoor
open Go.RowKit G294

set_option maxRecDepth 100000 in
set_option maxHeartbeats 2000000 in
theorem l2Blank_own (r c : Nat) (w : World) (hr : r ≤ 1000) (hc : c ≤ 1000) : Calls Tryd.prog 181 #[.int .i64 r, .int .i64 c] w (RetMat 5 24 w (mkM r c fun _ _ => 0)) := by
  have hmk := run_make_row' (P := Tryd.prog) 24 5 (.int .u8 0) 1 Tryd.underlying24 infoElemB rfl .i64 .i64 c (by omega) (by omega)
  have hb0 : Below w.heap.size w (w.alloc (.cells #[.slice none 0 0] 70)) := (Below.refl _ _).alloc (Nat.le_refl _) _
  have hb2 : Below w.heap.size w ((w.alloc (.cells #[.slice none 0 0] 70)).alloc (.cells #[.slice none 0 0] 70)) := hb0.alloc (by simp) _
  have hsz : ((w.alloc (.cells #[.slice none 0 0] 70)).alloc (.cells #[.slice none 0 0] 70)).heap.size = w.heap.size + 2 := by simp
  have hM0 : OwnM 5 24 ((w.alloc (.cells #[.slice none 0 0] 70)).alloc (.cells #[.slice none 0 0] 70)) (w.heap.size + 2) (w.heap.size + 2) (.slice none 0 0) (mkM 0 c fun _ _ => 0) [] := hsz ▸ OwnM.nil _ _ _ _
  have HSZ := Lib.hid hsz
  clear hsz
  go_enter Tryd.func181, Tryd.ntmps181
  go_wp2_with fail
  go_loopw [6] (fun i wr => ∃ (k : Nat) (o : Value) (vs : List Value), k ≤ r ∧ i = .int .i64 k ∧ OwnM 5 24 wr (w.heap.size + 2) wr.heap.size o (mkM k c fun _ _ => 0) vs ∧
      wr.cell? ⟨w.heap.size + 1, 0, none⟩ = some o ∧ wr.frozen? ⟨w.heap.size + 1, 0, none⟩ = false ∧ wr.cell? ⟨w.heap.size, 0, none⟩ = some (.slice none 0 0) ∧ wr.frozen? ⟨w.heap.size, 0, none⟩ = false ∧ Below w.heap.size w wr ∧ w.heap.size + 2 ≤ wr.heap.size)
    (fun i _ => r - (intOf i).toNat)
  case atStart => exact ⟨0, .slice none 0 0, [], Nat.zero_le _, rfl, hM0.wider (Nat.le_refl _) (by rw [HSZ.out]; exact Nat.le_refl _) (Nat.le_refl _), by simp, by simp, by simp, by simp, hb2, by rw [HSZ.out]; exact Nat.le_refl _⟩
  case round =>
    obtain ⟨k, o, vs, hk, rfl, hM, hc1, hf1, hc0, hf0, hb, hsz⟩ := hrel
    clear hM0 hb2 hb0
    by_cases hlt : k < r
    · have hki : (k : Int) < (r : Int) := by omega
      have hrow : wr.ownsRow (w.heap.size + 2) 24 1 o k vs := by simpa using hM.row
      obtain ⟨A, n, cp, rfl⟩ := hM.isSlice
      have kW : TurnIn 0 0 wr ((wr.alloc (.cells (madeCells #[.int .u8 0] c) 5)).alloc (.cells #[.slice (some ⟨wr.heap.size, 0, none⟩) c c] 24)).drew := TurnIn.of_below (((Below.refl _ _).alloc (Nat.le_refl _) _).alloc (by simp) _).drew
      have hob : ∀ g, (Value.slice A n cp).ownBlock = some g → w.heap.size + 2 ≤ g := fun g e => (hrow.lt g e).1
      have hne1 : (Value.slice A n cp).ownBlock ≠ some (w.heap.size + 1) := fun e => by have := hob _ e; omega
      have hne0 : (Value.slice A n cp).ownBlock ≠ some w.heap.size := fun e => by have := hob _ e; omega
      have HK := Lib.hid kW
      have hcA : (wr.alloc (.cells (madeCells #[.int .u8 0] c) 5)).cell? ⟨w.heap.size + 1, 0, none⟩ = some (.slice A n cp) := cell_turn (TurnIn.of_below ((Below.refl _ _).alloc (Nat.le_refl _) _)) hc1 (by omega)
      have hcB : ((wr.alloc (.cells (madeCells #[.int .u8 0] c) 5)).alloc (.cells #[.slice (some ⟨wr.heap.size, 0, none⟩) c c] 24)).cell? ⟨w.heap.size + 1, 0, none⟩ = some (.slice A n cp) := cell_turn kW hc1 (by omega)
      clear kW
      go_wp2_with fail
      go_region_law ((refine step_append1 (by rfl) _ _ _ (by rfl) (w.heap.size + 2) 24 _ _ Tryd.underlying68 infoRowB rfl _ k vs (by rfl) (((hrow.alloc _).alloc _).drew) (wr.heap.size + 1) (.slice (some ⟨wr.heap.size, 0, none⟩) c c) (by rfl) (by simp) (by rfl) (by omega) (by omega) (by simp; omega) ?_; intro v' w1 hown1 hg1 hv1; obtain ⟨A', n', cp', rfl⟩ := own_isSlice hown1; have hc1' := (cell_past HK.out hg1 hne1 (by omega) 0).trans hc1; have hf1' := (frozen_past HK.out hg1 hne1 (by omega) 0).trans hf1))
      all_goals
        have hR : OwnBytes 5 ((wr.alloc (.cells (madeCells #[.int .u8 0] c) 5)).alloc (.cells #[.slice (some ⟨wr.heap.size, 0, none⟩) c c] 24)).drew wr.heap.size (wr.heap.size + 1) (.slice (some ⟨wr.heap.size, 0, none⟩) c c) (mkRow c fun _ => 0) := by
          refine ⟨?_, by simp, fun g e => by simp [Value.ownBlock] at e; omega⟩
          rw [bys_zero c _ (fun _ _ => rfl), mkRow_length, ← toList_madeCells_one]
          exact ((World.ownsRow_lit wr (madeCells #[.int .u8 0] c) c (Nat.le_refl _) (by unfold maxLen; omega) (by simp [madeCells])).alloc _).drew
        have hM5 := (((hM.push HK.out hR (Nat.le_refl _) (by omega) (by simpa using hown1) hg1 hv1).keep (turn_setCell w1 (w.heap.size + 1) 0 (.slice A' n' cp')) (by omega)).congr (mkM_succ k c fun _ _ => 0).symm)
        have hw1 : wr.heap.size ≤ w1.heap.size := by have := hg1.size; have := HK.out.size; omega
        have hb5 : Below w.heap.size w (w1.setCell ⟨w.heap.size + 1, 0, none⟩ (.slice A' n' cp')) := Below.setCell (TurnIn.base (TurnIn.of_grown (lo := w.heap.size) (hi := w1.heap.size) hg1 (fun g e => ⟨by have := hob g e; omega, by have := (hM.out g e); omega⟩)) (HK.out.base hb (by omega) (by omega)) (by have := HK.out.size; omega) (by omega)) (Nat.le_succ _) _
        have hq0 := ((cell_past HK.out hg1 hne0 (by omega) 0).trans hc0)
        have hq0f := ((frozen_past HK.out hg1 hne0 (by omega) 0).trans hf0)
        clear hR hown1 hg1 hv1 hM hrow hob hcA hcB hb hc0 hf0
        go_wp2_with fail
        go_roundw
        case rel => exact ⟨k + 1, .slice A' n' cp', vs ++ [.slice (some ⟨wr.heap.size, 0, none⟩) c c], by omega, by go_num, by simpa using hM5, World.cell?_setCell_same _ _ _ hc1', by simp [hf1'], (cell_set_other w1 _ _ _ (by omega)).trans hq0, (frozen_set_other w1 _ _ _ (by omega)).trans hq0f, hb5, by simp; omega⟩
        case measure => simp [intOf]; omega
    · obtain rfl : k = r := by omega
      have hki : ¬ (k : Int) < (k : Int) := by omega
      obtain ⟨A, n, cp, rfl⟩ := hM.isSlice
      go_wp2_with fail
      refine bodyPost_ret (v := .agg #[.slice A n cp]) (by simp [results, Tryd.results181, go_sem, hc0]) rfl ?_
      have kk := turn_setCell wr w.heap.size 0 (.slice A n cp)
      refine ⟨_, vs, rfl, (hM.keep kk (by omega)).wider (by omega) (by simp) (by simp), TurnIn.of_below (hb.setCell (Nat.le_refl _) _)⟩
end Go.Proofs.YtlkoafnlklhaeaaDoor
