/- Contracts of the laws' helpers on []Shard: equality, marks, marks held. -/
import Derived.Test.YtipmfebnjmobfaaDoorShardMem
import Derived.Test.YtipmfebnjmobfaaDoorStrWalks
import Derived.Test.YtipmfebnjmobfaaDoorBoxes
set_option linter.unusedSimpArgs false
set_option linter.unusedVariables false
namespace Go.Proofs.YtipmfebnjmobfaaDoor
open Go.RowKit G294

theorem infoShard : (Tryd.prog.info? 35).map (fun i => (i.zero, i.size, i.bytes)) = some (some (.agg #[.int .i64 0, .string ⟨#[]⟩]), 2, 24) := by kernel_rfl

set_option maxRecDepth 100000 in
set_option maxHeartbeats 1000000 in
theorem eqShard_same (n : Int) (s : List UInt8) (w : World) : Calls Tryd.prog 23 #[.agg #[.int .i64 n, .string (str s)], .agg #[.int .i64 n, .string (str s)]] w (RetBool w true) := by
  have hb0 : Below w.heap.size w (w.alloc (.cells #[.int .i64 n, .string (str s)] 35)) := (Below.refl _ _).alloc (Nat.le_refl _) _
  have hb1 : Below w.heap.size w ((w.alloc (.cells #[.int .i64 n, .string (str s)] 35)).alloc (.cells #[.int .i64 n, .string (str s)] 35)) := hb0.alloc (by simp) _
  have hbb := str_same s
  have hnn : ((n : Int) != (n : Int)) = false := by simp
  clear hb0
  go_enter Tryd.func23, Tryd.ntmps23
  go_wp2_with fail
  go_ret
  exact ⟨rfl, TurnIn.of_below hb1⟩

set_option maxRecDepth 100000 in
set_option maxHeartbeats 1000000 in
theorem eqShardS_same (v u : Value) (l : List Sh) (w : World) (hv : SeenH w v l) (hu : SeenH w u l) :
    Calls Tryd.prog 17 #[v, u] w (RetBool w true) := by
  obtain ⟨A, c, rfl, hlc, hcm, hx⟩ := hv
  obtain ⟨A', c', rfl, hlc', hcm', hx'⟩ := hu
  unfold maxLen at hcm hcm'
  generalize hnn : l.length = n at *
  have HN := Lib.hid hnn
  clear hnn
  have hbn : ((n : Int) != (n : Int)) = false := by simp
  go_enter Tryd.func17, Tryd.ntmps17
  go_wp2_with fail
  go_loopw [5] (fun i wr => ∃ k : Nat, k ≤ n ∧ i = .int .i64 k ∧ Below w.heap.size w wr)
    (fun i _ => n - (intOf i).toNat)
  case atStart => exact ⟨0, Nat.zero_le _, rfl, Below.refl _ _⟩
  case round =>
    obtain ⟨k, hk, rfl, hb⟩ := hrel
    by_cases hlt : k < n
    · obtain ⟨b, off, rfl, hbl, hcell⟩ := hx (by omega)
      obtain ⟨b', off', rfl, hbl', hcell'⟩ := hx' (by omega)
      obtain ⟨⟨no, s⟩, hks⟩ := at_lt HN.out hlt
      have hc1 := (hb.cell (p := ⟨b, off + k * 2, none⟩) hbl).trans (hcell k _ hks).1
      have hc2 := (hb.cell (p := ⟨b, off + k * 2 + 1, none⟩) hbl).trans (hcell k _ hks).2
      have hd1 := (hb.cell (p := ⟨b', off' + k * 2, none⟩) hbl').trans (hcell' k _ hks).1
      have hd2 := (hb.cell (p := ⟨b', off' + k * 2 + 1, none⟩) hbl').trans (hcell' k _ hks).2
      simp only at hc1 hc2 hd1 hd2
      clear hcell hcell' hx hx'
      have hbs := hb.size
      have hki : (k : Int) < (n : Int) := by omega
      go_wp2_with fail
      go_region_held3 (fun w' => (w'.cell? ⟨b, off + k * 2, none⟩ = some (.int .i64 no) ∧ w'.cell? ⟨b, off + k * 2 + 1, none⟩ = some (.string (str s))) ∧ w'.cell? ⟨b', off' + k * 2, none⟩ = some (.int .i64 no) ∧ w'.cell? ⟨b', off' + k * 2 + 1, none⟩ = some (.string (str s)))
        (first | exact ⟨⟨hc1, hc2⟩, hd1, hd2⟩ | exact ⟨⟨cell_turn ht hc1 (by simp; omega), cell_turn ht hc2 (by simp; omega)⟩, cell_turn ht hd1 (by simp; omega), cell_turn ht hd2 (by simp; omega)⟩)
        ((go_at_call 23; refine (eqShard_same no s _).mono ?_; rintro e w' ⟨rfl, ht⟩))
      all_goals
        have hb2 : Below w.heap.size w w' := ht.base (below_drewN hb 1) (by simp; omega) (by omega)
        go_wp2_with fail
        go_roundw
        case rel => exact ⟨k + 1, by omega, by go_num, hb2⟩
        case measure => simp [intOf]; omega
    · obtain rfl : k = n := by omega
      go_wp2_with fail
      go_ret
      exact ⟨rfl, TurnIn.of_below hb⟩

set_option maxRecDepth 100000 in
set_option maxHeartbeats 2000000 in
theorem markShardS_own (v : Value) (l : List Sh) (k0 lo hi : Nat) (w : World) (hv : OwnSh 35 w lo hi v l) (h1 : 0 < k0) (hk0 : k0 + l.length * 2 ≤ 1000000000000) :
    Calls Tryd.prog 18 #[v, .int .i64 k0] w (RetMarkH 35 w lo hi v k0 l.length) := by
  have hown0 := hv
  rcases hv.1.2 with ⟨rfl, hn⟩ | ⟨g, cap, cur, rfl, hbg, hg, hnc, hcm, hcs, ht⟩
  · have : l = [] := List.eq_nil_of_length_eq_zero hn
    subst this
    have HE := Lib.hid hown0
    clear hown0 hv hn
    go_enter Tryd.func18, Tryd.ntmps18
    go_wp2_with fail
    refine wp_loop_once ?_
    go_wp2_with fail
    go_ret
    exact ⟨rfl, HE.out, ⟨rfl, rfl, rfl, Nat.le_refl _, fun _ _ _ => rfl⟩⟩
  · have hgh : g < hi := hv.2.2 g rfl
    have htop : hi ≤ w.heap.size := hv.2.1
    replace hown0 := hv.1
    clear hv hg ht hcs
    unfold maxLen at hcm
    generalize hnn : l.length = n at *
    have HN := Lib.hid hnn
    clear hnn
    go_enter Tryd.func18, Tryd.ntmps18
    go_wp2_with fail
    go_loopw [1, 5] (fun q i wr => ∃ k : Nat, k ≤ n ∧ i = .int .i64 k ∧ q = .int .i64 ((k0 + k * 2 : Nat) : Int) ∧ wr.ownsRow lo 35 2 (.slice (some ⟨g, 0, none⟩) n cap) n (shs ((marksH k0 n).take k ++ l.drop k)) ∧ TurnIn lo hi w wr)
      (fun _ i _ => n - (intOf i).toNat)
    case atStart => exact ⟨0, Nat.zero_le _, rfl, by simp, by simpa using hown0, ⟨rfl, rfl, rfl, Nat.le_refl _, fun _ _ _ => rfl⟩⟩
    case round =>
      obtain ⟨k, hk, rfl, rfl, hown, hgr⟩ := hrel
      clear hown0
      by_cases hlt : k < n
      · have hki : (k : Int) < (n : Int) := by omega
        have hlen : ((marksH k0 n).take k ++ l.drop k).length = n := by simp [HN.out]; omega
        obtain ⟨⟨no, s⟩, hks⟩ := at_lt hlen hlt
        obtain ⟨hkl, hke⟩ := List.getElem?_eq_some_iff.1 hks
        have hco : wr.cell? ⟨g, k * 2, none⟩ = some (.int .i64 no) := by
          rw [hown.cellAt (k * 2) (by omega), shs_no _ k hkl, hke]
        have hfr := hown.frozenAt (k * 2)
        have hst := hown.stored (k * 2) (.int .i64 ((k0 + k * 2 : Nat) : Int))
        have hst2 : TurnIn lo hi w _ := turn_trans hgr (TurnIn.of_grown (lo := lo) (hi := hi) hst.2 (fun g' e => by simp [Value.ownBlock] at e; omega)) (by omega)
        have HL : Hid ((((shs ((marksH k0 n).take k ++ l.drop k)).set (k * 2) (.int .i64 ((k0 + k * 2 : Nat) : Int))).set (k * 2 + 1) (.string (str (mtext (k0 + k * 2 + 1))))) = shs ((marksH k0 n).take (k + 1) ++ l.drop (k + 1))) := by
          show _ = _
          rw [shs_set _ k (((k0 + k * 2 : Nat) : Int), mtext (k0 + k * 2 + 1)) hkl, take_set_over _ _ k _ (by rw [List.getElem?_eq_getElem (by simpa using hlt), marksH_get]) (by simp [HN.out])]
        have HD : Hid ((shs ((marksH k0 n).take k ++ l.drop k))[k * 2 + 1]? = some (.string (str s))) := by
          show _ = _
          rw [shs_data _ k hkl, hke]
        have HC1 : Hid (((k0 + k * 2 : Nat) : Int) + 1 = ((k0 + k * 2 + 1 : Nat) : Int)) := (Int.natCast_add _ 1).symm
        generalize shs ((marksH k0 n).take k ++ l.drop k) = XS at *
        obtain ⟨m, hm⟩ : ∃ m, m = k0 + k * 2 := ⟨_, rfl⟩
        rw [← hm] at hst hst2 HL HC1 ⊢
        have hm1 : m + 2 ≤ 1000000000000 := by omega
        have hm0 : 0 < m := by omega
        have HM := Lib.hid hm
        have hst1 := hst.1
        have HB2 := Lib.hid hst2
        have HCT : Hid (∀ W, Calls Tryd.prog 66 #[.int .i64 ((m : Int) + 1)] W (RetStr W (mtext (m + 1)))) := fun W => HC1.out ▸ markText_ret (m + 1) W (by omega) (by omega)
        clear hst hown hke hkl hks hlen hgr hst2 hm
        go_wp2_with fail
        refine (HCT.out _).mono ?_
        rintro e w' ⟨rfl, ht⟩
        have hown' := owns_turn0 hst1 ht
        have hsz := ht.size
        have hgs := HB2.out.size
        have hco2 : w'.cell? ⟨g, k * 2 + 1, none⟩ = some (.string (str s)) := by
          rw [hown'.cellAt (k * 2 + 1) (by omega), List.getElem?_set_ne (by omega)]; exact HD.out
        have hfr2 := hown'.frozenAt (k * 2 + 1)
        have hst3 := hown'.stored (k * 2 + 1) (.string (str (mtext (m + 1))))
        rw [HL.out] at hst3
        have hst4 : TurnIn lo hi w _ := turn_trans (turn_trans HB2.out ht (by omega)) (TurnIn.of_grown (lo := lo) (hi := hi) hst3.2 (fun g' e => by simp [Value.ownBlock] at e; omega)) (by omega)
        have hst5 := hst3.1
        clear hst3 hown' hst1
        go_wp2_with fail
        go_roundw
        case rel => exact ⟨k + 1, by omega, by go_num, by have := HM.out; go_num, hst5, hst4⟩
        case measure => simp [intOf]; omega
      · obtain rfl : k = n := by omega
        go_wp2_with fail
        go_ret
        refine ⟨rfl, ?_, hgr⟩
        rw [List.take_of_length_le (by simp), List.drop_of_length_le (by rw [HN.out]; exact Nat.le_refl _), List.append_nil] at hown
        exact ⟨by simpa using hown, Nat.le_trans htop hgr.size, fun g' e => by simp [Value.ownBlock] at e; omega⟩

end Go.Proofs.YtipmfebnjmobfaaDoor
