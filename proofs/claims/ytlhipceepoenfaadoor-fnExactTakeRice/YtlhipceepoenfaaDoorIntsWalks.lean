/- Contracts of the laws' helpers on []int: a copy, equality, marks, marks held. -/
import Derived.Test.YtlhipceepoenfaaDoorBytesWalks
import Derived.Test.YtlhipceepoenfaaDoorTurns
set_option linter.unusedSimpArgs false
set_option linter.unusedVariables false
namespace Go.Proofs.YtlhipceepoenfaaDoor
open Go.RowKit G294

theorem infoInt : (Tryd.prog.info? 3).map (fun i => (i.zero, i.size, i.bytes)) = some (some (.int .i64 0), 1, 8) := by kernel_rfl

theorem eq_atI {l m : List Int} {k : Nat} (hl : k < l.length) (hm : k < m.length) (h : l[k] ≠ m[k]) : (l == m) = false := by
  rw [beq_eq_false_iff_ne]
  intro e; subst e; exact h rfl

theorem eq_allI {l m : List Int} (hl : l.length = m.length) (h : ∀ i (h1 : i < l.length) (h2 : i < m.length), l[i] = m[i]) : (l == m) = true := by
  rw [beq_iff_eq]; exact List.ext_getElem hl h

set_option maxHeartbeats 400000 in
theorem toIntS_any (v : Value) (l : List Int) (w : World) (hv : Seen w v (ints l)) (hn : l.length ≤ 1048576) :
    Calls Tryd.prog 15 #[v] w (Made w 3 (ints l)) := by
  obtain ⟨i0, hi0, hz0, hz1, hz2⟩ := info_parts infoInt
  obtain ⟨A, c, rfl, hlc, hcm, hx⟩ := hv
  rw [ints_length] at hlc hx
  simp only [ints_length]
  unfold maxLen at hcm
  generalize hnn : l.length = n at *
  have HN := Lib.hid hnn
  clear hnn
  go_enter Tryd.func15, Tryd.ntmps15
  go_wp2_with (at_make; refine wpList_make_full _ rfl _ _ _ rfl w.heap.size _ i0 _ 1 Tryd.underlying27 hi0 hz0 hz1 _ _ _ _ n rfl rfl rfl rfl ?b2 ?b3 ?b4 ?_)
  case b2 => rw [hz2]; omega
  case b3 => unfold maxLen; omega
  case b4 => exact Nat.le_refl _
  intro w1 hown1 hg1
  have hb1 : Below w.heap.size w w1 := below_of_grown hg1 (Nat.le_refl _) (by simp)
  rw [toList_madeCells_one] at hown1
  clear hg1
  go_wp2_with fail
  go_loopw [4] (fun i wr => ∃ k : Nat, k ≤ n ∧ i = .int .i64 k ∧ wr.ownsRow w.heap.size 3 1 (.slice (some ⟨w.heap.size, 0, none⟩) n n) n ((ints l).take k ++ List.replicate (n - k) (.int .i64 0)) ∧ Below w.heap.size w wr)
    (fun i _ => n - (intOf i).toNat)
  case atStart => exact ⟨0, Nat.zero_le _, rfl, by simpa using hown1, hb1⟩
  case round =>
    obtain ⟨k, hk, rfl, hown, hb⟩ := hrel
    clear hown1 hb1
    by_cases hlt : k < n
    · obtain ⟨b, off, rfl, hbl, hcell⟩ := hx (by omega)
      have hkl : k < l.length := by rw [HN.out]; exact hlt
      have hcx : wr.cell? ⟨b, off + k, none⟩ = some (.int .i64 (l[k])) := (hb.cell (p := ⟨b, off + k, none⟩) hbl).trans (hcell k _ (ints_get l k hkl))
      have hco : wr.cell? ⟨w.heap.size, k, none⟩ = some (.int .i64 0) := by
        have ht : ((ints l).take k).length = k := by simp; omega
        rw [hown.cellAt k (by omega), List.getElem?_append_right (by omega), ht, Nat.sub_self, List.getElem?_replicate, if_pos (by omega)]
      have hfr := hown.frozenAt k
      have hst := hown.stored k (.int .i64 (l[k]))
      rw [take_set_next (ints l) _ k _ (ints_get l k hkl) (by simp [HN.out]; omega)] at hst
      clear hcell hx
      go_wp2_with fail
      go_roundw
      case rel => exact ⟨k + 1, by omega, by go_num, by simpa [Nat.sub_sub] using hst.1, hb.setCell (Nat.le_refl _) _⟩
      case measure => simp [intOf]; omega
    · obtain rfl : k = n := by omega
      go_wp2_with fail
      go_ret
      refine ⟨_, rfl, ?_, hb⟩
      rw [List.take_of_length_le (by simp [HN.out]), Nat.sub_self] at hown
      simpa [HN.out] using hown

set_option maxHeartbeats 400000 in
theorem eqIntS_any (v u : Value) (l m : List Int) (w : World) (hv : Seen w v (ints l)) (hu : Seen w u (ints m)) :
    Calls Tryd.prog 17 #[v, u] w (Tells w (l == m)) := by
  obtain ⟨A, c, rfl, hlc, hcm, hx⟩ := hv
  obtain ⟨A', c', rfl, hlc', hcm', hx'⟩ := hu
  rw [ints_length] at hlc hx hlc' hx'
  simp only [ints_length]
  unfold maxLen at hcm hcm'
  by_cases hlen : l.length = m.length
  · generalize hnn : l.length = n at *
    generalize hmm : m.length = n' at *
    obtain rfl : n = n' := by omega
    have HN := Lib.hid hnn
    have HM := Lib.hid hmm
    clear hnn hmm
    have hbn : ((n : Int) != (n : Int)) = false := by simp
    go_enter Tryd.func17, Tryd.ntmps17
    go_wp2_with fail
    go_loopw [5] (fun i wr => ∃ k : Nat, k ≤ n ∧ i = .int .i64 k ∧ Hid (∀ i (h1 : i < l.length) (h2 : i < m.length), i < k → l[i] = m[i]) ∧ Below w.heap.size w wr)
      (fun i _ => n - (intOf i).toNat)
    case atStart => exact ⟨0, Nat.zero_le _, rfl, (fun _ _ _ h => by omega), Below.refl _ _⟩
    case round =>
      obtain ⟨k, hk, rfl, HE, hb⟩ := hrel
      by_cases hlt : k < n
      · obtain ⟨b, off, rfl, hbl, hcell⟩ := hx (by omega)
        obtain ⟨b', off', rfl, hbl', hcell'⟩ := hx' (by omega)
        have hkl : k < l.length := by rw [HN.out]; exact hlt
        have hkm : k < m.length := by rw [HM.out]; exact hlt
        have hcx : wr.cell? ⟨b, off + k, none⟩ = some (.int .i64 (l[k])) := (hb.cell (p := ⟨b, off + k, none⟩) hbl).trans (hcell k _ (ints_get l k hkl))
        have hcy : wr.cell? ⟨b', off' + k, none⟩ = some (.int .i64 (m[k])) := (hb.cell (p := ⟨b', off' + k, none⟩) hbl').trans (hcell' k _ (ints_get m k hkm))
        clear hcell hcell' hx hx'
        have hki : (k : Int) < (n : Int) := by omega
        by_cases hne : l[k] = m[k]
        · have hbb : (l[k] != m[k]) = false := by simp [hne]
          have HK : Hid (∀ i (h1 : i < l.length) (h2 : i < m.length), i < k + 1 → l[i] = m[i]) := fun i h1 h2 h => by
            rcases Nat.lt_or_ge i k with h' | h'
            · exact HE.out i h1 h2 h'
            · obtain rfl : i = k := by omega
              exact hne
          clear hne
          go_wp2_with fail
          go_quiet (fail)
          go_wp2_with fail
          go_roundw
          case rel => exact ⟨k + 1, by omega, by go_num, HK, below_drewN hb _⟩
          case measure => simp [intOf]; omega
        · have hbb : (l[k] != m[k]) = true := by simpa using hne
          have HF := Lib.hid (eq_atI hkl hkm hne)
          clear hne
          go_wp2_with fail
          go_quiet (fail)
          go_wp2_with fail
          go_ret
          exact ⟨by rw [HF.out]; rfl, below_drewN hb _⟩
      · obtain rfl : k = n := by omega
        have HF := Lib.hid (eq_allI (l := l) (m := m) (by rw [HN.out, HM.out]) (fun i h1 h2 => HE.out i h1 h2 (by rw [HN.out] at h1; exact h1)))
        go_wp2_with fail
        go_ret
        exact ⟨by rw [HF.out]; rfl, hb⟩
  · have hbn : ((l.length : Int) != (m.length : Int)) = true := by simp; omega
    have HF : Hid ((l == m) = false) := by
      show (l == m) = false
      rw [beq_eq_false_iff_ne]; intro e; exact hlen (by rw [e])
    clear hlen
    generalize l.length = n at *
    generalize m.length = n' at *
    go_enter Tryd.func17, Tryd.ntmps17
    go_wp2_with fail
    go_ret
    exact ⟨by rw [HF.out]; rfl, Below.refl _ _⟩

set_option maxHeartbeats 400000 in
theorem markIntS_any (v : Value) (l : List Int) (k0 base : Nat) (w : World) (hv : w.ownsRow base 3 1 v l.length (ints l)) (hk0 : k0 + l.length ≤ 1000000000000) :
    Calls Tryd.prog 20 #[v, .int .i64 k0] w (Marked w 3 base v (ints (marksI k0 l.length)) ((k0 + l.length : Nat) : Int)) := by
  have hown0 := hv
  rcases hv.2 with ⟨rfl, hn⟩ | ⟨g, cap, cur, rfl, hbg, hg, hnc, hcm, hcs, ht⟩
  · have : l = [] := List.eq_nil_of_length_eq_zero hn
    subst this
    have HE := Lib.hid hown0
    clear hown0 hv hn
    go_enter Tryd.func20, Tryd.ntmps20
    go_wp2_with fail
    refine wp_loop_once ?_
    go_wp2_with fail
    go_ret
    exact ⟨rfl, HE.out, World.grownBy.refl _ _⟩
  · clear hv hg ht hcs
    unfold maxLen at hcm
    generalize hnn : l.length = n at *
    have HN := Lib.hid hnn
    have hbl : (ints l).length = n := by simp [hnn]
    have HB := Lib.hid hbl
    clear hnn hbl
    go_enter Tryd.func20, Tryd.ntmps20
    go_wp2_with fail
    go_loopw [1, 5] (fun q i wr => ∃ k : Nat, k ≤ n ∧ i = .int .i64 k ∧ q = .int .i64 ((k0 : Int) + (k : Int)) ∧ wr.ownsRow base 3 1 (.slice (some ⟨g, 0, none⟩) n cap) n ((ints (marksI k0 n)).take k ++ (ints l).drop k) ∧ w.grownBy wr (some g))
      (fun _ i _ => n - (intOf i).toNat)
    case atStart => exact ⟨0, Nat.zero_le _, rfl, by simp, by simpa using hown0, World.grownBy.refl _ _⟩
    case round =>
      obtain ⟨k, hk, rfl, rfl, hown, hgr⟩ := hrel
      clear hown0
      by_cases hlt : k < n
      · have hco : wr.cell? ⟨g, k, none⟩ = some (.int .i64 (l[k]'(by rw [HN.out]; exact hlt))) := by
          have htk : ((ints (marksI k0 n)).take k).length = k := by simp; omega
          rw [hown.cellAt k (by omega), List.getElem?_append_right (by omega), htk, Nat.sub_self, List.getElem?_drop, Nat.add_zero, ints_get]
        have hfr := hown.frozenAt k
        have hst := hown.stored k (.int .i64 ((k0 + k : Nat) : Int))
        rw [take_set_over _ _ k _ (marksI_get k0 n k hlt) (by simp [HN.out])] at hst
        have hst1 := hst.1
        have hst2 : w.grownBy _ (some g) := hgr.trans hst.2
        have HC : Hid (((k0 + k : Nat) : Int) = (k0 : Int) + (k : Int)) := Int.natCast_add k0 k
        rw [HC.out] at hst1 hst2
        clear hst
        go_wp2_with fail
        go_roundw
        case rel => exact ⟨k + 1, by omega, by go_num, by go_num, hst1, hst2⟩
        case measure => simp [intOf]; omega
      · obtain rfl : k = n := by omega
        go_wp2_with fail
        go_ret
        refine ⟨?_, ?_, hgr⟩
        · exact congrArg (fun z => Ending.returned (.int .i64 z)) (by simp)
        · rw [List.take_of_length_le (by simp), List.drop_of_length_le (by rw [HB.out]; exact Nat.le_refl _), List.append_nil] at hown
          simpa using hown

set_option maxHeartbeats 400000 in
theorem heldIntS_any (v : Value) (k0 n : Nat) (w : World) (hv : Seen w v (ints (marksI k0 n))) (hk0 : k0 + n ≤ 1000000000000) :
    Calls Tryd.prog 21 #[v, .int .i64 k0] w (TellsInt w ((k0 + n : Nat) : Int)) := by
  obtain ⟨A, c, rfl, hlc, hcm, hx⟩ := hv
  simp only [ints_length, marksI_length] at hlc hx ⊢
  unfold maxLen at hcm
  go_enter Tryd.func21, Tryd.ntmps21
  go_wp2_with fail
  go_loopw [1, 5] (fun q i wr => ∃ k : Nat, k ≤ n ∧ i = .int .i64 k ∧ q = .int .i64 ((k0 : Int) + (k : Int)) ∧ Below w.heap.size w wr)
    (fun _ i _ => n - (intOf i).toNat)
  case atStart => exact ⟨0, Nat.zero_le _, rfl, by simp, Below.refl _ _⟩
  case round =>
    obtain ⟨k, hk, rfl, rfl, hb⟩ := hrel
    by_cases hlt : k < n
    · obtain ⟨b, off, rfl, hbl, hcell⟩ := hx (by omega)
      have hcx : wr.cell? ⟨b, off + k, none⟩ = some (.int .i64 ((k0 : Int) + (k : Int))) := by
        have := (hb.cell (p := ⟨b, off + k, none⟩) hbl).trans (hcell k _ (marksI_get k0 n k hlt))
        rwa [Int.natCast_add] at this
      clear hcell hx
      have hki : (k : Int) < (n : Int) := by omega
      have hbb : ((k0 : Int) + (k : Int) != (k0 : Int) + (k : Int)) = false := by simp
      go_wp2_with fail
      go_roundw
      case rel => exact ⟨k + 1, by omega, by go_num, by go_num, hb⟩
      case measure => simp [intOf]; omega
    · obtain rfl : k = n := by omega
      go_wp2_with fail
      go_ret
      exact ⟨congrArg (fun z => Ending.returned (.int .i64 z)) (by simp), hb⟩

theorem toIntS_own (v : Value) (l : List Int) (w : World) (hv : Seen w v (ints l)) (hn : l.length ≤ 1048576) : Calls Tryd.prog 15 #[v] w (RetInts 3 w l) :=
  (toIntS_any v l w hv hn).mono fun e w' ⟨v', he, ho, hb⟩ => ⟨v', he, OwnInts.of_made (by simpa using ho), TurnIn.of_below hb⟩

theorem eqIntS_same (v u : Value) (l : List Int) (w : World) (hv : Seen w v (ints l)) (hu : Seen w u (ints l)) : Calls Tryd.prog 17 #[v, u] w (RetBool w true) := by
  have := eqIntS_any v u l l w hv hu
  rw [beq_self_eq_true] at this
  exact this.mono fun e w' ⟨he, hb⟩ => ⟨he, TurnIn.of_below hb⟩

theorem markIntS_own (v : Value) (l : List Int) (k lo hi : Nat) (w : World) (hv : OwnInts 3 w lo hi v l) (hk : k + l.length ≤ 1000000000000) :
    Calls Tryd.prog 20 #[v, .int .i64 k] w (RetMarkI 3 w lo hi v k l.length) :=
  (markIntS_any v l k lo w hv.1 hk).mono fun e w' ⟨he, ho, hg⟩ => ⟨he, ⟨by simpa using ho, Nat.le_trans hv.2.1 hg.size, hv.2.2⟩, TurnIn.of_grown hg fun g h => ⟨(hv.1.lt g h).1, hv.2.2 g h⟩⟩

theorem heldIntS_own (v : Value) (k n : Nat) (w : World) (hv : Seen w v (ints (marksI k n))) (hk : k + n ≤ 1000000000000) : Calls Tryd.prog 21 #[v, .int .i64 k] w (RetInt w ((k + n : Nat) : Int)) :=
  (heldIntS_any v k n w hv hk).mono fun e w' ⟨he, hb⟩ => ⟨he, TurnIn.of_below hb⟩

end Go.Proofs.YtlhipceepoenfaaDoor
