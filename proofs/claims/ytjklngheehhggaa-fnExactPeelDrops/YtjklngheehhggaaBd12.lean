/- Joined texts: DrpWalks, ShardWalks, ShardArgs, DrpArgs, PeeMem, Split, SplitI. -/
import Derived.Test.YtjklngheehhggaaBd09
import Derived.Test.YtjklngheehhggaaBd02
import Derived.Test.YtjklngheehhggaaBd05
import Derived.Test.YtjklngheehhggaaBd04
import Derived.Test.YtjklngheehhggaaBd08
import Derived.Test.YtjklngheehhggaaBd11
import Derived.Lib.LazyBuf
set_option linter.unusedSimpArgs false
set_option linter.unusedVariables false
/- Contracts of the laws' helpers on []Drop: equality, marks, marks held. -/
namespace Go.Proofs.Ytjklngheehhggaa
open Go.RowKit G294

theorem infoDrop : (Try.prog.info? 59).map (fun i => (i.zero, i.size, i.bytes)) = some (some (.agg #[.int .i64 0, .string ⟨#[]⟩]), 2, 24) := by kernel_rfl

set_option maxRecDepth 100000 in
set_option maxHeartbeats 1000000 in
theorem eqDrop_same (n : Int) (s : List UInt8) (w : World) : Calls Try.prog 40 #[.agg #[.int .i64 n, .string (str s)], .agg #[.int .i64 n, .string (str s)]] w (RetBool w true) := by
  have hb0 : Below w.heap.size w (w.alloc (.cells #[.int .i64 n, .string (str s)] 59)) := (Below.refl _ _).alloc (Nat.le_refl _) _
  have hb1 : Below w.heap.size w ((w.alloc (.cells #[.int .i64 n, .string (str s)] 59)).alloc (.cells #[.int .i64 n, .string (str s)] 59)) := hb0.alloc (by simp) _
  have hbb := str_same s
  have hnn : ((n : Int) != (n : Int)) = false := by simp
  clear hb0
  go_enter Try.func40, Try.ntmps40
  go_wp2_with fail
  go_ret
  exact ⟨rfl, TurnIn.of_below hb1⟩

set_option maxRecDepth 100000 in
set_option maxHeartbeats 1000000 in
theorem eqDropS_same (v u : Value) (l : List Sh) (w : World) (hv : SeenH w v l) (hu : SeenH w u l) :
    Calls Try.prog 17 #[v, u] w (RetBool w true) := by
  obtain ⟨A, c, rfl, hlc, hcm, hx⟩ := hv
  obtain ⟨A', c', rfl, hlc', hcm', hx'⟩ := hu
  unfold maxLen at hcm hcm'
  generalize hnn : l.length = n at *
  have HN := Lib.hid hnn
  clear hnn
  have hbn : ((n : Int) != (n : Int)) = false := by simp
  go_enter Try.func17, Try.ntmps17
  go_wp2_with fail
  go_loopw [5] (fun i wr => ∃ k : Nat, k ≤ n ∧ i = .int .i64 k ∧ Below w.heap.size w wr)
    (fun i _ => n - (intOf i).toNat)
  case atStart => exact ⟨0, Nat.zero_le _, rfl, Below.refl _ _⟩
  case round =>
    obtain ⟨k, hk, rfl, hb⟩ := hrel
    by_cases hlt : k < n
    · obtain ⟨b, off, rfl, hbl, hcell⟩ := hx (by omega)
      obtain ⟨b', off', rfl, hbl', hcell'⟩ := hx' (by omega)
      obtain ⟨⟨no, s⟩, hks⟩ := at_lt HN.out hlt
      have hc1 := (hb.cell (p := ⟨b, off + k * 2, none⟩) hbl).trans (hcell k _ hks).1
      have hc2 := (hb.cell (p := ⟨b, off + k * 2 + 1, none⟩) hbl).trans (hcell k _ hks).2
      have hd1 := (hb.cell (p := ⟨b', off' + k * 2, none⟩) hbl').trans (hcell' k _ hks).1
      have hd2 := (hb.cell (p := ⟨b', off' + k * 2 + 1, none⟩) hbl').trans (hcell' k _ hks).2
      simp only at hc1 hc2 hd1 hd2
      clear hcell hcell' hx hx'
      have hbs := hb.size
      have hki : (k : Int) < (n : Int) := by omega
      go_wp2_with fail
      go_region_held3 (fun w' => (w'.cell? ⟨b, off + k * 2, none⟩ = some (.int .i64 no) ∧ w'.cell? ⟨b, off + k * 2 + 1, none⟩ = some (.string (str s))) ∧ w'.cell? ⟨b', off' + k * 2, none⟩ = some (.int .i64 no) ∧ w'.cell? ⟨b', off' + k * 2 + 1, none⟩ = some (.string (str s)))
        (first | exact ⟨⟨hc1, hc2⟩, hd1, hd2⟩ | exact ⟨⟨cell_turn ht hc1 (by simp; omega), cell_turn ht hc2 (by simp; omega)⟩, cell_turn ht hd1 (by simp; omega), cell_turn ht hd2 (by simp; omega)⟩)
        ((go_at_call 40; refine (eqDrop_same no s _).mono ?_; rintro e w' ⟨rfl, ht⟩))
      all_goals
        have hb2 : Below w.heap.size w w' := ht.base (below_drewN hb 1) (by simp; omega) (by omega)
        go_wp2_with fail
        go_roundw
        case rel => exact ⟨k + 1, by omega, by go_num, hb2⟩
        case measure => simp [intOf]; omega
    · obtain rfl : k = n := by omega
      go_wp2_with fail
      go_ret
      exact ⟨rfl, TurnIn.of_below hb⟩

set_option maxRecDepth 100000 in
set_option maxHeartbeats 2000000 in
theorem markDropS_own (v : Value) (l : List Sh) (k0 lo hi : Nat) (w : World) (hv : OwnSh 59 w lo hi v l) (h1 : 0 < k0) (hk0 : k0 + l.length * 2 ≤ 1000000000000) :
    Calls Try.prog 18 #[v, .int .i64 k0] w (RetMarkH 59 w lo hi v k0 l.length) := by
  have hown0 := hv
  rcases hv.1.2 with ⟨rfl, hn⟩ | ⟨g, cap, cur, rfl, hbg, hg, hnc, hcm, hcs, ht⟩
  · have : l = [] := List.eq_nil_of_length_eq_zero hn
    subst this
    have HE := Lib.hid hown0
    clear hown0 hv hn
    go_enter Try.func18, Try.ntmps18
    go_wp2_with fail
    refine wp_loop_once ?_
    go_wp2_with fail
    go_ret
    exact ⟨rfl, HE.out, ⟨rfl, rfl, rfl, Nat.le_refl _, fun _ _ _ => rfl⟩⟩
  · have hgh : g < hi := hv.2.2 g rfl
    have htop : hi ≤ w.heap.size := hv.2.1
    replace hown0 := hv.1
    clear hv hg ht hcs
    unfold maxLen at hcm
    generalize hnn : l.length = n at *
    have HN := Lib.hid hnn
    clear hnn
    go_enter Try.func18, Try.ntmps18
    go_wp2_with fail
    go_loopw [1, 5] (fun q i wr => ∃ k : Nat, k ≤ n ∧ i = .int .i64 k ∧ q = .int .i64 ((k0 + k * 2 : Nat) : Int) ∧ wr.ownsRow lo 59 2 (.slice (some ⟨g, 0, none⟩) n cap) n (shs ((marksH k0 n).take k ++ l.drop k)) ∧ TurnIn lo hi w wr)
      (fun _ i _ => n - (intOf i).toNat)
    case atStart => exact ⟨0, Nat.zero_le _, rfl, by simp, by simpa using hown0, ⟨rfl, rfl, rfl, Nat.le_refl _, fun _ _ _ => rfl⟩⟩
    case round =>
      obtain ⟨k, hk, rfl, rfl, hown, hgr⟩ := hrel
      clear hown0
      by_cases hlt : k < n
      · have hki : (k : Int) < (n : Int) := by omega
        have hlen : ((marksH k0 n).take k ++ l.drop k).length = n := by simp [HN.out]; omega
        obtain ⟨⟨no, s⟩, hks⟩ := at_lt hlen hlt
        obtain ⟨hkl, hke⟩ := List.getElem?_eq_some_iff.1 hks
        have hco : wr.cell? ⟨g, k * 2, none⟩ = some (.int .i64 no) := by
          rw [hown.cellAt (k * 2) (by omega), shs_no _ k hkl, hke]
        have hfr := hown.frozenAt (k * 2)
        have hst := hown.stored (k * 2) (.int .i64 ((k0 + k * 2 : Nat) : Int))
        have hst2 : TurnIn lo hi w _ := turn_trans hgr (TurnIn.of_grown (lo := lo) (hi := hi) hst.2 (fun g' e => by simp [Value.ownBlock] at e; omega)) (by omega)
        have HL : Hid ((((shs ((marksH k0 n).take k ++ l.drop k)).set (k * 2) (.int .i64 ((k0 + k * 2 : Nat) : Int))).set (k * 2 + 1) (.string (str (mtext (k0 + k * 2 + 1))))) = shs ((marksH k0 n).take (k + 1) ++ l.drop (k + 1))) := by
          show _ = _
          rw [shs_set _ k (((k0 + k * 2 : Nat) : Int), mtext (k0 + k * 2 + 1)) hkl, take_set_over _ _ k _ (by rw [List.getElem?_eq_getElem (by simpa using hlt), marksH_get]) (by simp [HN.out])]
        have HD : Hid ((shs ((marksH k0 n).take k ++ l.drop k))[k * 2 + 1]? = some (.string (str s))) := by
          show _ = _
          rw [shs_data _ k hkl, hke]
        have HC1 : Hid (((k0 + k * 2 : Nat) : Int) + 1 = ((k0 + k * 2 + 1 : Nat) : Int)) := (Int.natCast_add _ 1).symm
        generalize shs ((marksH k0 n).take k ++ l.drop k) = XS at *
        obtain ⟨m, hm⟩ : ∃ m, m = k0 + k * 2 := ⟨_, rfl⟩
        rw [← hm] at hst hst2 HL HC1 ⊢
        have hm1 : m + 2 ≤ 1000000000000 := by omega
        have hm0 : 0 < m := by omega
        have HM := Lib.hid hm
        have hst1 := hst.1
        have HB2 := Lib.hid hst2
        have HCT : Hid (∀ W, Calls Try.prog 41 #[.int .i64 ((m : Int) + 1)] W (RetStr W (mtext (m + 1)))) := fun W => HC1.out ▸ markText_ret (m + 1) W (by omega) (by omega)
        clear hst hown hke hkl hks hlen hgr hst2 hm
        go_wp2_with fail
        refine (HCT.out _).mono ?_
        rintro e w' ⟨rfl, ht⟩
        have hown' := owns_turn0 hst1 ht
        have hsz := ht.size
        have hgs := HB2.out.size
        have hco2 : w'.cell? ⟨g, k * 2 + 1, none⟩ = some (.string (str s)) := by
          rw [hown'.cellAt (k * 2 + 1) (by omega), List.getElem?_set_ne (by omega)]; exact HD.out
        have hfr2 := hown'.frozenAt (k * 2 + 1)
        have hst3 := hown'.stored (k * 2 + 1) (.string (str (mtext (m + 1))))
        rw [HL.out] at hst3
        have hst4 : TurnIn lo hi w _ := turn_trans (turn_trans HB2.out ht (by omega)) (TurnIn.of_grown (lo := lo) (hi := hi) hst3.2 (fun g' e => by simp [Value.ownBlock] at e; omega)) (by omega)
        have hst5 := hst3.1
        clear hst3 hown' hst1
        go_wp2_with fail
        go_roundw
        case rel => exact ⟨k + 1, by omega, by go_num, by have := HM.out; go_num, hst5, hst4⟩
        case measure => simp [intOf]; omega
      · obtain rfl : k = n := by omega
        go_wp2_with fail
        go_ret
        refine ⟨rfl, ?_, hgr⟩
        rw [List.take_of_length_le (by simp), List.drop_of_length_le (by rw [HN.out]; exact Nat.le_refl _), List.append_nil] at hown
        exact ⟨by simpa using hown, Nat.le_trans htop hgr.size, fun g' e => by simp [Value.ownBlock] at e; omega⟩

end Go.Proofs.Ytjklngheehhggaa

/- Contracts of the laws' helpers on []Shard: equality, marks, marks held. -/
namespace Go.Proofs.Ytjklngheehhggaa
open Go.RowKit G294

theorem infoShard : (Try.prog.info? 92).map (fun i => (i.zero, i.size, i.bytes)) = some (some (.agg #[.int .i64 0, .string ⟨#[]⟩]), 2, 24) := by kernel_rfl

end Go.Proofs.Ytjklngheehhggaa

/- Shards as arguments: the laws' copies and sizes, and the program's textsOf. -/
namespace G294
open Go Go.RowKit
def sizH (l : List Sh) : Nat := sizM (l.map (·.2))
theorem sizH_take_succ (l : List Sh) (k : Nat) (h : k < l.length) : sizH (l.take (k + 1)) = sizH (l.take k) + l[k].2.length := by
  unfold sizH
  rw [List.map_take, List.map_take, sizM_take_succ _ k (by simpa using h)]
  simp [List.getD, h]
theorem sizH_take_le (l : List Sh) (k : Nat) : sizH (l.take k) ≤ sizH l := by
  unfold sizH
  rw [List.map_take]; exact sizM_take_le _ _
theorem toList_madeCells_shs (n : Nat) : (madeCells #[.int .i64 0, .string ⟨#[]⟩] (n * 2)).toList = shs (List.replicate n ((0 : Int), ([] : List UInt8))) := by
  apply List.ext_getElem?
  intro j
  by_cases hj : j < n * 2
  · rcases Nat.mod_two_eq_zero_or_one j with h | h
    · have e : j = (j / 2) * 2 := by omega
      rw [e, shs_no _ (j / 2) (by simp; omega)]
      simp [madeCells, show j / 2 * 2 < n * 2 by omega]
    · have e : j = (j / 2) * 2 + 1 := by omega
      have h2 : (j / 2 * 2 + 1) % 2 = 1 := by omega
      rw [e, shs_data _ (j / 2) (by simp; omega)]
      simp [madeCells, show j / 2 * 2 + 1 < n * 2 by omega, h2]
      rfl
  · rw [List.getElem?_eq_none (by simp [madeCells]; omega), List.getElem?_eq_none (by simp; omega)]
end G294
namespace Go.Proofs.Ytjklngheehhggaa
open Go.RowKit G294

set_option maxRecDepth 100000 in
set_option maxHeartbeats 1000000 in
theorem textsOf_own (v : Value) (l : List Sh) (w : World) (hv : SeenH w v l) (hn : l.length ≤ 1048576) : Calls Try.prog 61 #[v] w (RetStrs 9 w (l.map (·.2))) := by
  obtain ⟨i0, hi0, hz0, hz1, hz2⟩ := info_parts infoStr
  obtain ⟨A, c, rfl, hlc, hcm, hx⟩ := hv
  unfold maxLen at hcm
  have hlm : (l.map (·.2)).length = l.length := by simp
  generalize hT : l.map (·.2) = T at *
  have HTT := Lib.hid hT
  clear hT
  generalize hnn : l.length = n at *
  have HN := Lib.hid hnn
  have HLM := Lib.hid hlm
  clear hnn hlm
  go_enter Try.func61, Try.ntmps61
  go_wp2_with (at_make; refine wpList_make_full _ rfl _ _ _ rfl w.heap.size _ i0 _ 1 Try.underlying30 hi0 hz0 hz1 _ _ _ _ n rfl rfl rfl rfl ?b2 ?b3 ?b4 ?_)
  case b2 => rw [hz2]; omega
  case b3 => unfold maxLen; omega
  case b4 => exact Nat.le_refl _
  intro w1 hown1 hg1
  have hb1 : Below w.heap.size w w1 := below_of_grown hg1 (Nat.le_refl _) (by simp)
  rw [toList_madeCells_one] at hown1
  have hs1 := (hown1.lt w.heap.size rfl).2
  clear hg1
  go_wp2_with fail
  go_loopw [11] (fun i wr => ∃ k : Nat, k ≤ n ∧ i = .int .i64 k ∧ wr.ownsRow w.heap.size 9 1 (.slice (some ⟨w.heap.size, 0, none⟩) n n) n ((strs T).take k ++ List.replicate (n - k) (.string ⟨#[]⟩)) ∧ Below w.heap.size w wr)
    (fun i _ => n - (intOf i).toNat)
  case atStart => exact ⟨0, Nat.zero_le _, rfl, by simpa using hown1, hb1⟩
  case round =>
    obtain ⟨k, hk, rfl, hown, hb⟩ := hrel
    clear hown1 hb1
    by_cases hlt : k < n
    · obtain ⟨b, off, rfl, hbl, hcell⟩ := hx (by omega)
      obtain ⟨⟨no, s⟩, hks⟩ := at_lt HN.out hlt
      have hc1 := (hb.cell (p := ⟨b, off + k * 2, none⟩) hbl).trans (hcell k _ hks).1
      have hc2 := (hb.cell (p := ⟨b, off + k * 2 + 1, none⟩) hbl).trans (hcell k _ hks).2
      simp only at hc1 hc2
      have hki : (k : Int) < (n : Int) := by omega
      have hTk : (strs T)[k]? = some (.string (str s)) := by
        rw [← HTT.out]; simp [strs, hks]
      have HTK := Lib.hid hTk
      have hwr := (hown.lt w.heap.size rfl).2
      have hown2 := hown.alloc (.cells #[.int .i64 no, .string (str s)] 92)
      have hco : (wr.alloc (.cells #[.int .i64 no, .string (str s)] 92)).cell? ⟨w.heap.size, k, none⟩ = some (.string ⟨#[]⟩) := by
        have ht : ((strs T).take k).length = k := by simp [HLM.out]; omega
        rw [hown2.cellAt k (by omega), List.getElem?_append_right (by omega), ht, Nat.sub_self, List.getElem?_replicate, if_pos (by omega)]
      have hfr := hown2.frozenAt k
      have hst := hown.stored k (.string (str s))
      rw [take_set_next (strs T) _ k _ hTk (by simp [HLM.out]; omega)] at hst
      have hst1 := hst.1.alloc (.cells #[.int .i64 no, .string (str s)] 92)
      have hb2 := (hb.setCell (p := ⟨w.heap.size, k, none⟩) (Nat.le_refl _) (.string (str s))).alloc (by have := hb.size; simp; omega) (.cells #[.int .i64 no, .string (str s)] 92)
      clear hcell hx hown2 hTk
      go_wp2_with fail
      go_roundw
      case rel => exact ⟨k + 1, by omega, by go_num, by simpa [Nat.sub_sub] using hst1, hb2⟩
      case measure => simp [intOf]; omega
    · obtain rfl : k = n := by omega
      have hki : ¬ (k : Int) < (k : Int) := by omega
      go_wp2_with fail
      go_ret
      refine ⟨_, rfl, OwnStrs.of_made ?_, TurnIn.of_below hb⟩
      rw [List.take_of_length_le (by simp [HLM.out]), Nat.sub_self] at hown
      rw [HLM.out]
      simpa using hown

end Go.Proofs.Ytjklngheehhggaa

/- Drops as arguments: the laws' copies and sizes. -/
namespace Go.Proofs.Ytjklngheehhggaa
open Go.RowKit G294

set_option maxRecDepth 100000 in
set_option maxHeartbeats 1000000 in
theorem toDrop_own (n : Int) (s : List UInt8) (w : World) : Calls Try.prog 36 #[.agg #[.int .i64 n, .string (str s)]] w fun e w' => e = .returned (.agg #[.int .i64 n, .string (str s)]) ∧ TurnIn 0 0 w w' := by
  have kk : TurnIn 0 0 w (((w.alloc (.cells #[.int .i64 n, .string (str s)] 57)).alloc (.cells #[.int .i64 n, .string (str s)] 59)).alloc (.cells #[.int .i64 n, .string (str s)] 59)) := turn_trans (turn_trans (turn_alloc _ _) (turn_alloc _ _) (by omega)) (turn_alloc _ _) (by omega)
  go_enter Try.func36, Try.ntmps36
  go_wp2_with fail
  refine bodyPost_ret (v := .agg #[.int .i64 n, .string (str s)]) (by simp [results, Try.results36, go_sem]) rfl ?_
  exact ⟨rfl, kk⟩

set_option maxRecDepth 100000 in
set_option maxHeartbeats 2000000 in
theorem toDropS_own (v : Value) (l : List Sh) (w : World) (hv : SeenH w v l) (hn : l.length ≤ 1048576) : Calls Try.prog 14 #[v] w (RetShs 59 w l) := by
  obtain ⟨i0, hi0, hz0, hz1, hz2⟩ := info_parts infoDrop
  obtain ⟨A, c, rfl, hlc, hcm, hx⟩ := hv
  unfold maxLen at hcm
  generalize hnn : l.length = n at *
  have HN := Lib.hid hnn
  clear hnn
  go_enter Try.func14, Try.ntmps14
  go_wp2_with (at_make; refine wpList_make_full _ rfl _ _ _ rfl w.heap.size _ i0 _ 2 Try.underlying36 hi0 hz0 hz1 _ _ _ _ n rfl rfl rfl rfl ?b2 ?b3 ?b4 ?_)
  case b2 => rw [hz2]; omega
  case b3 => unfold maxLen; omega
  case b4 => exact Nat.le_refl _
  intro w1 hown1 hg1
  have hb1 : Below w.heap.size w w1 := below_of_grown hg1 (Nat.le_refl _) (by simp)
  rw [toList_madeCells_shs] at hown1
  clear hg1
  go_wp2_with fail
  go_loopw [4] (fun i wr => ∃ k : Nat, k ≤ n ∧ i = .int .i64 k ∧ wr.ownsRow w.heap.size 59 2 (.slice (some ⟨w.heap.size, 0, none⟩) n n) n (shs (l.take k ++ List.replicate (n - k) ((0 : Int), ([] : List UInt8)))) ∧ Below w.heap.size w wr)
    (fun i _ => n - (intOf i).toNat)
  case atStart => exact ⟨0, Nat.zero_le _, rfl, by simpa using hown1, hb1⟩
  case round =>
    obtain ⟨k, hk, rfl, hown, hb⟩ := hrel
    clear hown1 hb1
    by_cases hlt : k < n
    · obtain ⟨b, off, rfl, hbl, hcell⟩ := hx (by omega)
      obtain ⟨⟨no, s⟩, hks⟩ := at_lt HN.out hlt
      have hc1 := (hb.cell (p := ⟨b, off + k * 2, none⟩) hbl).trans (hcell k _ hks).1
      have hc2 := (hb.cell (p := ⟨b, off + k * 2 + 1, none⟩) hbl).trans (hcell k _ hks).2
      simp only at hc1 hc2
      have hki : (k : Int) < (n : Int) := by omega
      have hbs := hb.size
      have HKS := Lib.hid hks
      clear hcell hx hks
      go_wp2_with fail
      refine (toDrop_own no s _).mono ?_
      rintro e w' ⟨rfl, ht⟩
      have hown' := owns_turn0 hown ht
      have hsz := ht.size
      have hlen : (l.take k ++ List.replicate (n - k) ((0 : Int), ([] : List UInt8))).length = n := by simp [HN.out]; omega
      have hkl : k < (l.take k ++ List.replicate (n - k) ((0 : Int), ([] : List UInt8))).length := by omega
      have hd1 : w'.cell? ⟨w.heap.size, k * 2, none⟩ = some (.int .i64 (l.take k ++ List.replicate (n - k) ((0 : Int), ([] : List UInt8)))[k].1) := by rw [hown'.cellAt (k * 2) (by omega), shs_no _ k hkl]
      have hd2 : w'.cell? ⟨w.heap.size, k * 2 + 1, none⟩ = some (.string (str (l.take k ++ List.replicate (n - k) ((0 : Int), ([] : List UInt8)))[k].2)) := by rw [hown'.cellAt (k * 2 + 1) (by omega), shs_data _ k hkl]
      have hf1 := hown'.frozenAt (k * 2)
      have hf2 := hown'.frozenAt (k * 2 + 1)
      have hst := hown'.stored (k * 2) (.int .i64 no)
      have hst2 := hst.1.stored (k * 2 + 1) (.string (str s))
      rw [shs_set _ k (no, s) hkl, take_set_next l _ k (no, s) HKS.out (by simp [HN.out]; omega)] at hst2
      have hb2 := ((ht.base hb (by omega) (by omega)).setCell (p := ⟨w.heap.size, k * 2, none⟩) (Nat.le_refl _) (.int .i64 no)).setCell (p := ⟨w.heap.size, k * 2 + 1, none⟩) (Nat.le_refl _) (.string (str s))
      generalize (l.take k ++ List.replicate (n - k) ((0 : Int), ([] : List UInt8)))[k] = old at hd1 hd2
      clear hown' hlen hkl hst hown
      go_wp2_with fail
      go_roundw
      case rel => exact ⟨k + 1, by omega, by go_num, by simpa [Nat.sub_sub] using hst2.1, hb2⟩
      case measure => simp [intOf]; omega
    · obtain rfl : k = n := by omega
      have hki : ¬ (k : Int) < (k : Int) := by omega
      go_wp2_with fail
      go_ret
      refine ⟨_, rfl, OwnSh.of_made ?_, TurnIn.of_below hb⟩
      rw [List.take_of_length_le (by rw [HN.out]; exact Nat.le_refl _), Nat.sub_self] at hown
      rw [HN.out]
      simpa using hown

set_option maxRecDepth 100000 in
set_option maxHeartbeats 1000000 in
theorem szDrop_any (n : Int) (s : List UInt8) (left : Nat) (w : World) (hl : left ≤ 1048576) (hm : s.length ≤ maxLen) : Calls Try.prog 33 #[.agg #[.int .i64 n, .string (str s)], .int .i64 left] w (RetInt w (szV left s.length)) := by
  have kk : TurnIn 0 0 w (w.alloc (.cells #[.int .i64 n, .string (str s)] 57)) := turn_alloc _ _
  have hsz := str_size s
  generalize s.length = z at *
  unfold maxLen at hm
  by_cases h : z ≤ left
  · have HF := Lib.hid (szV_yes h)
    have hneg : ¬ ((left : Int) - (z : Int)) < 0 := by omega
    go_enter Try.func33, Try.ntmps33
    go_wp2_with fail
    go_ret
    exact ⟨by rw [HF.out]; exact congrArg (fun z => Ending.returned (.int .i64 z)) (by omega), kk⟩
  · have HF := Lib.hid (szV_no (show left < z by omega))
    have hneg : ((left : Int) - (z : Int)) < 0 := by omega
    go_enter Try.func33, Try.ntmps33
    go_wp2_with fail
    go_ret
    exact ⟨by rw [HF.out]; rfl, kk⟩

set_option maxRecDepth 100000 in
set_option maxHeartbeats 2000000 in
theorem szDropS_any (v : Value) (L : List Sh) (left : Nat) (w : World) (hv : SeenH w v L) (hmx : ∀ s ∈ L, s.2.length ≤ maxLen) (hl : left ≤ 1048576) :
    Calls Try.prog 12 #[v, .int .i64 left] w (RetInt w (szV left (L.length + sizH L))) := by
  obtain ⟨A, c, rfl, hlc, hcm, hx⟩ := hv
  unfold maxLen at hcm
  generalize hnn : L.length = n at *
  have HN := Lib.hid hnn
  clear hnn
  by_cases h0 : n ≤ left
  · go_enter Try.func12, Try.ntmps12
    go_wp2_with fail
    go_loopw [1, 5] (fun q i wr => ∃ k m : Nat, k ≤ n ∧ i = .int .i64 k ∧ q = .int .i64 m ∧ m ≤ left ∧ Hid (m + sizH (L.take k) + n = left) ∧ Below w.heap.size w wr) (fun _ i _ => n - (intOf i).toNat)
    case atStart => exact ⟨0, left - n, Nat.zero_le _, rfl, by go_num, by omega, by show left - n + sizH (L.take 0) + n = left; simp [sizH, sizM]; omega, Below.refl _ _⟩
    case round =>
      obtain ⟨k, m, hk, rfl, rfl, hmd, HM, hb⟩ := hrel
      by_cases hlt : k < n
      · have hki : (k : Int) < (n : Int) := by omega
        obtain ⟨b, off, rfl, hbl, hcell⟩ := hx (by omega)
        obtain ⟨⟨no, s⟩, hks⟩ := at_lt HN.out hlt
        obtain ⟨hkl, hke⟩ := List.getElem?_eq_some_iff.1 hks
        have hc1 := (hb.cell (p := ⟨b, off + k * 2, none⟩) hbl).trans (hcell k _ hks).1
        have hc2 := (hb.cell (p := ⟨b, off + k * 2 + 1, none⟩) hbl).trans (hcell k _ hks).2
        simp only at hc1 hc2
        have hmk : s.length ≤ maxLen := by have := hmx L[k] (List.getElem_mem hkl); rw [hke] at this; exact this
        have HT := Lib.hid (sizH_take_succ L k hkl)
        rw [hke] at HT
        have HTL := Lib.hid (sizH_take_le L (k + 1))
        have HMK := Lib.hid hmk
        have hbs := hb.size
        clear hcell hx hks hke hkl hmk
        go_wp2_with fail
        refine (szDrop_any no s m _ (by omega) HMK.out).mono ?_
        rintro e w' ⟨rfl, ht⟩
        have hb2 := ht.base hb (by omega) (by omega)
        by_cases hle : s.length ≤ m
        · have HM2 : Hid (m - s.length + sizH (L.take (k + 1)) + n = left) := by
            show _ = left
            have h7 : sizH (L.take (k + 1)) = sizH (L.take k) + s.length := HT.out; have := HM.out; omega
          rw [szV_yes hle]
          generalize s.length = z at *
          have hneg : ¬ ((m - z : Nat) : Int) < 0 := by omega
          go_wp2_with fail
          go_roundw
          case rel => exact ⟨k + 1, m - z, by omega, by go_num, rfl, by omega, HM2, hb2⟩
          case measure => simp [intOf]; omega
        · have HF : Hid (szV left (n + sizH L) = -1) := by
            show _ = _
            apply szV_no
            have h7 : sizH (L.take (k + 1)) = sizH (L.take k) + s.length := HT.out; have := HTL.out; have := HM.out; omega
          rw [szV_no (show m < s.length by omega)]
          go_wp2_with fail
          go_ret
          exact ⟨by rw [HF.out]; rfl, TurnIn.of_below hb2⟩
      · obtain rfl : k = n := by omega
        have hki : ¬ (k : Int) < (k : Int) := by omega
        have HF : Hid (szV left (k + sizH L) = (m : Int)) := by
          have e := HM.out
          rw [List.take_of_length_le (by rw [HN.out]; exact Nat.le_refl _)] at e
          show _ = _
          rw [szV_yes (by omega)]; omega
        go_wp2_with fail
        go_ret
        exact ⟨by rw [HF.out]; rfl, TurnIn.of_below hb⟩
  · have HF : Hid (szV left (n + sizH L) = -1) := by show _ = _; exact szV_no (by omega)
    go_enter Try.func12, Try.ntmps12
    go_wp2_with fail
    go_ret
    exact ⟨by rw [HF.out]; rfl, TurnIn.refl w⟩

theorem szDropS_yes (v : Value) (L : List Sh) (left : Nat) (w : World) (hv : SeenH w v L) (hmx : ∀ s ∈ L, s.2.length ≤ maxLen) (h : L.length + sizH L ≤ left) (hl : left ≤ 1048576) :
    Calls Try.prog 12 #[v, .int .i64 left] w (RetInt w ((left - (L.length + sizH L) : Nat) : Int)) :=
  (szDropS_any v L left w hv hmx hl).mono fun e w' he => ⟨by rw [he.1, szV_yes h], he.2⟩

theorem szDropS_no (v : Value) (L : List Sh) (left : Nat) (w : World) (hv : SeenH w v L) (hmx : ∀ s ∈ L, s.2.length ≤ maxLen) (h : left < L.length + sizH L) (hl : left ≤ 1048576) :
    Calls Try.prog 12 #[v, .int .i64 left] w (RetInt w (-1)) :=
  (szDropS_any v L left w hv hmx hl).mono fun e w' he => ⟨by rw [he.1, szV_no h], he.2⟩

theorem szDrop_yes (n : Int) (s : List UInt8) (left : Nat) (w : World) (hl : left ≤ 1048576) (hm : s.length ≤ maxLen) (h : s.length ≤ left) : Calls Try.prog 33 #[.agg #[.int .i64 n, .string (str s)], .int .i64 left] w (RetInt w ((left - s.length : Nat) : Int)) :=
  (szDrop_any n s left w hl hm).mono fun e w' he => ⟨by rw [he.1, szV_yes h], he.2⟩

theorem szDrop_no (n : Int) (s : List UInt8) (left : Nat) (w : World) (hl : left ≤ 1048576) (hm : s.length ≤ maxLen) (h : left < s.length) : Calls Try.prog 33 #[.agg #[.int .i64 n, .string (str s)], .int .i64 left] w (RetInt w (-1)) :=
  (szDrop_any n s left w hl hm).mono fun e w' he => ⟨by rw [he.1, szV_no h], he.2⟩

end Go.Proofs.Ytjklngheehhggaa

/- States of peeling in memory: a slice of texts, a slice of bools, a number. -/
namespace G294
open Go Go.RowKit
/-- a state of the call's own, its blocks from lo to hi -/
def OwnP (E E2 : TypeId) (w : World) (lo hi : Nat) (v u : Value) (s : Pee) : Prop := ∃ l1 h1 l2 h2, lo ≤ l1 ∧ h1 ≤ hi ∧ lo ≤ l2 ∧ h2 ≤ hi ∧ (h1 ≤ l2 ∨ h2 ≤ l1) ∧ OwnStrs E w l1 h1 v s.1 ∧ OwnBools E2 w l2 h2 u s.2.1
section
variable {w w' : World} {lo hi a b : Nat} {v u : Value} {s : Pee} {E E2 : TypeId}
theorem OwnP.keep (h : OwnP E E2 w lo hi v u s) (t : TurnIn a b w w') (d : hi ≤ a ∨ b ≤ lo) : OwnP E E2 w' lo hi v u s := by
  obtain ⟨l1, h1, l2, h2, e1, e2, e3, e4, e5, h3, h4⟩ := h
  exact ⟨l1, h1, l2, h2, e1, e2, e3, e4, e5, h3.keep t (by omega), h4.keep t (by omega)⟩
theorem OwnP.wider {lo' hi' : Nat} (h : OwnP E E2 w lo hi v u s) (h1 : lo' ≤ lo) (h2 : hi ≤ hi') : OwnP E E2 w lo' hi' v u s := by
  obtain ⟨l1, k1, l2, k2, e1, e2, e3, e4, e5, h3, h4⟩ := h
  exact ⟨l1, k1, l2, k2, by omega, by omega, by omega, by omega, e5, h3, h4⟩
theorem OwnP.isSlice (h : OwnP E E2 w lo hi v u s) : ∃ A n c A' n' c', v = .slice A n c ∧ u = .slice A' n' c' := by
  obtain ⟨_, _, _, _, _, _, _, _, _, h3, h4⟩ := h
  obtain ⟨A, n, c, e⟩ := h3.isSlice
  obtain ⟨A', n', c', e'⟩ := h4.isSlice
  exact ⟨_, _, _, _, _, _, e, e'⟩
theorem OwnP.seen1 (h : OwnP E E2 w lo hi v u s) : Seen w v (strs s.1) := by
  obtain ⟨_, _, _, _, _, _, _, _, _, h3, h4⟩ := h
  exact h3.seen
theorem OwnP.seen2 (h : OwnP E E2 w lo hi v u s) : Seen w u (bls s.2.1) := by
  obtain ⟨_, _, _, _, _, _, _, _, _, h3, h4⟩ := h
  exact h4.seen
theorem OwnP.nil (E E2 : TypeId) (w : World) (lo : Nat) (h : lo ≤ w.heap.size) : OwnP E E2 w lo w.heap.size (.slice none 0 0) (.slice none 0 0) ([], [], 0) :=
  ⟨w.heap.size, w.heap.size, w.heap.size, w.heap.size, h, Nat.le_refl _, h, Nat.le_refl _, .inl (Nat.le_refl _), OwnStrs.nil E w _, OwnBools.nil E2 w _⟩
end
def RetP (E E2 : TypeId) (w : World) (s : Pee) (e : Ending) (w' : World) : Prop := ∃ v u, e = .returned (.agg #[v, u, .int .i64 s.2.2]) ∧ OwnP E E2 w' w.heap.size w'.heap.size v u s ∧ TurnIn 0 0 w w'
def RetPOk (E E2 : TypeId) (w : World) (s : Pee) (ok : Bool) (e : Ending) (w' : World) : Prop := ∃ v u, e = .returned (.tuple #[.agg #[v, u, .int .i64 s.2.2], .bool ok]) ∧ OwnP E E2 w' w.heap.size w'.heap.size v u s ∧ TurnIn 0 0 w w'
def marksP (k n m : Nat) (z : Int) : Pee := (marksS k n, marksL (k + n) m, z)
def RetMarkP (E E2 : TypeId) (w : World) (lo hi : Nat) (v u : Value) (k n m : Nat) (z : Int) (e : Ending) (w' : World) : Prop :=
  e = .returned (.int .i64 ((k + (n + m) : Nat) : Int)) ∧ OwnP E E2 w' lo hi v u (marksP k n m z) ∧ TurnIn lo hi w w'
def totP (s : Pee) : Nat := (s.1.length + sizM s.1) + s.2.1.length
theorem totP_le (s : Pee) : s.1.length ≤ totP s ∧ s.2.1.length ≤ totP s := by unfold totP; omega
end G294
namespace Go.Proofs.Ytjklngheehhggaa
open Go.RowKit G294

set_option maxRecDepth 100000 in
set_option maxHeartbeats 1000000 in
theorem szPeel_yes (v u : Value) (s : Pee) (left : Nat) (w : World) (hv : Seen w v (strs s.1)) (hu : Seen w u (bls s.2.1)) (hm1 : ∀ t ∈ s.1, t.length ≤ maxLen) (h : totP s ≤ left) (hl : left ≤ 1048576) :
    Calls Try.prog 23 #[.agg #[v, u, .int .i64 s.2.2], .int .i64 left] w (RetInt w ((left - totP s : Nat) : Int)) := by
  obtain ⟨A, c, hvv⟩ := hv.len
  rw [strs_length] at hvv
  subst hvv
  obtain ⟨A2, c2, huu⟩ := hu.len
  rw [bls_length] at huu
  subst huu
  unfold totP at h ⊢
  generalize hz : s.2.2 = zz at *
  have a1 := turn_alloc w (.cells #[.slice A s.1.length c, .slice A2 s.2.1.length c2, .int .i64 zz] 45)
  have c0 := alloc_tri0 w (.slice A s.1.length c) (.slice A2 s.2.1.length c2) (.int .i64 zz) 45
  have c1 := alloc_tri1 w (.slice A s.1.length c) (.slice A2 s.2.1.length c2) (.int .i64 zz) 45
  have l1 := alloc_lt w (.cells #[.slice A s.1.length c, .slice A2 s.2.1.length c2, .int .i64 zz] 45)
  have HS := Lib.hid (hv.touch a1)
  have HU := Lib.hid (hu.touch a1)
  have HM1 := Lib.hid hm1
  clear hv hu hm1
  obtain ⟨t1, ht1⟩ : ∃ z, z = s.1.length + sizM s.1 := ⟨_, rfl⟩
  obtain ⟨t2, ht2⟩ : ∃ z, z = s.2.1.length := ⟨_, rfl⟩
  rw [← ht1] at h ⊢
  rw [← ht2] at h HU c0 c1 l1 a1 HS ⊢
  have HT1 := Lib.hid ht1
  have HT2 := Lib.hid ht2
  clear ht1 ht2
  obtain ⟨z1, hz1⟩ : ∃ z, z = left - t1 := ⟨_, rfl⟩
  obtain ⟨z2, hz2⟩ : ∃ z, z = left - (t1 + t2) := ⟨_, rfl⟩
  have hz10 : ¬ (z1 : Int) < 0 := by omega
  have hz20 : ¬ (z2 : Int) < 0 := by omega
  have hzz : z1 - t2 = z2 := by omega
  have hz1l : z1 ≤ 1048576 := by omega
  have hz12 : t2 ≤ z1 := by omega
  have hz11 : t1 ≤ left := by omega
  have HZ1 := Lib.hid hz1
  have HZZ := Lib.hid hzz
  rw [← hz2]
  clear hz1 hz2 hzz
  go_enter Try.func23, Try.ntmps23
  go_wp2_with fail
  refine (szStringS_yes _ s.1 left _ HS.out HM1.out (by rw [← HT1.out]; exact hz11) hl).mono ?_
  rintro e w2 ⟨rfl, k2⟩
  rw [← HT1.out, ← HZ1.out]
  replace c0 := cell_turn k2 c0 l1
  replace c1 := cell_turn k2 c1 l1
  go_wp2_with fail
  refine (szBoolS_yes A2 t2 c2 z1 _ hz12 hz1l).mono ?_
  rintro e w3 ⟨rfl, k3⟩
  rw [HZZ.out]
  go_wp2_with fail
  go_ret
  exact ⟨rfl, turn_trans (turn_trans a1 k2 (by omega)) k3 (by omega)⟩

set_option maxRecDepth 100000 in
set_option maxHeartbeats 1000000 in
theorem szPeel_no (v u : Value) (s : Pee) (left : Nat) (w : World) (hv : Seen w v (strs s.1)) (hu : Seen w u (bls s.2.1)) (hm1 : ∀ t ∈ s.1, t.length ≤ maxLen) (h : left < totP s) (hl : left ≤ 1048576) :
    Calls Try.prog 23 #[.agg #[v, u, .int .i64 s.2.2], .int .i64 left] w (RetInt w (-1)) := by
  obtain ⟨A, c, hvv⟩ := hv.len
  rw [strs_length] at hvv
  subst hvv
  obtain ⟨A2, c2, huu⟩ := hu.len
  rw [bls_length] at huu
  subst huu
  have hcm : s.2.1.length ≤ maxLen := by
    obtain ⟨_, _, _, g1, g2, _⟩ := hu
    rw [bls_length] at g1
    omega
  unfold totP at h
  generalize hz : s.2.2 = zz at *
  have a1 := turn_alloc w (.cells #[.slice A s.1.length c, .slice A2 s.2.1.length c2, .int .i64 zz] 45)
  have c0 := alloc_tri0 w (.slice A s.1.length c) (.slice A2 s.2.1.length c2) (.int .i64 zz) 45
  have c1 := alloc_tri1 w (.slice A s.1.length c) (.slice A2 s.2.1.length c2) (.int .i64 zz) 45
  have l1 := alloc_lt w (.cells #[.slice A s.1.length c, .slice A2 s.2.1.length c2, .int .i64 zz] 45)
  have HS := Lib.hid (hv.touch a1)
  have HM1 := Lib.hid hm1
  clear hv hu hm1
  obtain ⟨t1, ht1⟩ : ∃ z, z = s.1.length + sizM s.1 := ⟨_, rfl⟩
  obtain ⟨t2, ht2⟩ : ∃ z, z = s.2.1.length := ⟨_, rfl⟩
  rw [← ht1] at h
  rw [← ht2] at h hcm c0 c1 l1 a1 HS ⊢
  have HT1 := Lib.hid ht1
  have HT2 := Lib.hid ht2
  clear ht1 ht2
  by_cases hb : left < t1
  · go_enter Try.func23, Try.ntmps23
    go_wp2_with fail
    refine (szStringS_no _ s.1 left _ HS.out HM1.out (by rw [← HT1.out]; exact hb) hl).mono ?_
    rintro e w2 ⟨rfl, k2⟩
    go_wp2_with fail
    go_ret
    exact ⟨rfl, turn_trans a1 k2 (by omega)⟩
  · obtain ⟨z1, hz1⟩ : ∃ z, z = left - t1 := ⟨_, rfl⟩
    have hz10 : ¬ (z1 : Int) < 0 := by omega
    have hz1l : z1 ≤ 1048576 := by omega
    have hz12 : z1 < t2 := by omega
    have hz11 : t1 ≤ left := by omega
    have HZ1 := Lib.hid hz1
    clear hz1
    go_enter Try.func23, Try.ntmps23
    go_wp2_with fail
    refine (szStringS_yes _ s.1 left _ HS.out HM1.out (by rw [← HT1.out]; exact hz11) hl).mono ?_
    rintro e w2 ⟨rfl, k2⟩
    rw [← HT1.out, ← HZ1.out]
    replace c0 := cell_turn k2 c0 l1
    replace c1 := cell_turn k2 c1 l1
    go_wp2_with fail
    refine (szBoolS_no A2 t2 c2 z1 _ hz12 hz1l hcm).mono ?_
    rintro e w3 ⟨rfl, k3⟩
    go_wp2_with fail
    go_ret
    exact ⟨rfl, turn_trans (turn_trans a1 k2 (by omega)) k3 (by omega)⟩

set_option maxRecDepth 100000 in
set_option maxHeartbeats 1000000 in
theorem eqPeel_same (v u v' u' : Value) (s : Pee) (w : World) (hv : Seen w v (strs s.1)) (hu : Seen w u (bls s.2.1)) (hv' : Seen w v' (strs s.1)) (hu' : Seen w u' (bls s.2.1)) :
    Calls Try.prog 16 #[.agg #[v, u, .int .i64 s.2.2], .agg #[v', u', .int .i64 s.2.2]] w (RetBool w true) := by
  obtain ⟨A, c, hvv⟩ := hv.len
  obtain ⟨B, d, huu⟩ := hu.len
  obtain ⟨A2, c2, hvv2⟩ := hv'.len
  obtain ⟨B2, d2, huu2⟩ := hu'.len
  rw [strs_length] at hvv hvv2
  rw [bls_length] at huu huu2
  subst hvv huu hvv2 huu2
  generalize hz : s.2.2 = zz at *
  have hzz : ((zz : Int) != (zz : Int)) = false := by simp
  have kb : TurnIn 0 0 w ((w.alloc (.cells #[.slice A s.1.length c, .slice B s.2.1.length d, .int .i64 zz] 33)).alloc (.cells #[.slice A2 s.1.length c2, .slice B2 s.2.1.length d2, .int .i64 zz] 33)) := turn_trans (turn_alloc _ _) (turn_alloc _ _) (by omega)
  have z2 : ((w.alloc (.cells #[.slice A s.1.length c, .slice B s.2.1.length d, .int .i64 zz] 33)).alloc (.cells #[.slice A2 s.1.length c2, .slice B2 s.2.1.length d2, .int .i64 zz] 33)).heap.size = w.heap.size + 2 := by simp
  have kq := turn_alloc (w.alloc (.cells #[.slice A s.1.length c, .slice B s.2.1.length d, .int .i64 zz] 33)) (.cells #[.slice A2 s.1.length c2, .slice B2 s.2.1.length d2, .int .i64 zz] 33)
  have c0 := cell_turn kq (alloc_tri0 w (.slice A s.1.length c) (.slice B s.2.1.length d) (.int .i64 zz) 33) (alloc_lt _ _)
  have c1 := cell_turn kq (alloc_tri1 w (.slice A s.1.length c) (.slice B s.2.1.length d) (.int .i64 zz) 33) (alloc_lt _ _)
  have cz := cell_turn kq (alloc_tri2 w (.slice A s.1.length c) (.slice B s.2.1.length d) (.int .i64 zz) 33) (alloc_lt _ _)
  have d0 := alloc_tri0 (w.alloc (.cells #[.slice A s.1.length c, .slice B s.2.1.length d, .int .i64 zz] 33)) (.slice A2 s.1.length c2) (.slice B2 s.2.1.length d2) (.int .i64 zz) 33
  have d1 := alloc_tri1 (w.alloc (.cells #[.slice A s.1.length c, .slice B s.2.1.length d, .int .i64 zz] 33)) (.slice A2 s.1.length c2) (.slice B2 s.2.1.length d2) (.int .i64 zz) 33
  have dz := alloc_tri2 (w.alloc (.cells #[.slice A s.1.length c, .slice B s.2.1.length d, .int .i64 zz] 33)) (.slice A2 s.1.length c2) (.slice B2 s.2.1.length d2) (.int .i64 zz) 33
  rw [World.size_alloc] at d0 d1 dz
  have HV := Lib.hid (hv.touch kb)
  have HU := Lib.hid (hu.touch kb)
  have HV2 := Lib.hid (hv'.touch kb)
  have HU2 := Lib.hid (hu'.touch kb)
  clear hv hu hv' hu' kq
  go_enter Try.func16, Try.ntmps16
  go_wp2_with fail
  refine (eqStringS_same _ _ s.1 _ HV.out HV2.out).mono ?_
  rintro e w2 ⟨rfl, k2⟩
  have s2 := k2.size
  replace c1 := cell_turn k2 c1 (by omega)
  replace d1 := cell_turn k2 d1 (by omega)
  replace cz := cell_turn k2 cz (by omega)
  replace dz := cell_turn k2 dz (by omega)
  have HU3 := Lib.hid (HU.out.touch k2)
  have HU4 := Lib.hid (HU2.out.touch k2)
  go_wp2_with fail
  refine (eqBoolS_same _ _ s.2.1 _ HU3.out HU4.out).mono ?_
  rintro e w3 ⟨rfl, k3⟩
  replace cz := cell_turn k3 cz (by omega)
  replace dz := cell_turn k3 dz (by omega)
  go_wp2_with fail
  go_ret
  exact ⟨rfl, turn_trans (turn_trans kb k2 (by omega)) k3 (by omega)⟩

set_option maxRecDepth 100000 in
set_option maxHeartbeats 1000000 in
theorem markPeel_own (v u : Value) (s : Pee) (k0 lo hi : Nat) (w : World) (ho : OwnP 9 4 w lo hi v u s) (h1 : 0 < k0) (hk0 : k0 + (s.1.length + s.2.1.length) ≤ 1000000000000) :
    Calls Try.prog 19 #[.agg #[v, u, .int .i64 s.2.2], .int .i64 k0] w (RetMarkP 9 4 w lo hi v u k0 s.1.length s.2.1.length s.2.2) := by
  obtain ⟨l1, h1', l2, h2', g1, g2, g3, g4, g5, o1, o2⟩ := ho
  obtain ⟨A, n, c, rfl⟩ := o1.isSlice
  obtain ⟨B, m, d, rfl⟩ := o2.isSlice
  have htop1 := o1.2.1
  have htop2 := o2.2.1
  generalize hz : s.2.2 = zz at *
  have a1 := turn_alloc w (.cells #[.slice A n c, .slice B m d, .int .i64 zz] 33)
  have z1 := World.size_alloc w (.cells #[.slice A n c, .slice B m d, .int .i64 zz] 33)
  have c0 := alloc_tri0 w (.slice A n c) (.slice B m d) (.int .i64 zz) 33
  have c1 := alloc_tri1 w (.slice A n c) (.slice B m d) (.int .i64 zz) 33
  have HO1 := Lib.hid (o1.keep a1 (by omega))
  have HO2 := Lib.hid (o2.keep a1 (by omega))
  clear o1 o2
  obtain ⟨y1, hy1⟩ : ∃ z, z = s.1.length := ⟨_, rfl⟩
  obtain ⟨y2, hy2⟩ : ∃ z, z = s.2.1.length := ⟨_, rfl⟩
  rw [← hy1, ← hy2] at hk0 ⊢
  have HY1 := Lib.hid hy1
  have HY2 := Lib.hid hy2
  clear hy1 hy2
  obtain ⟨k1, hk1⟩ : ∃ z, z = k0 + y1 := ⟨_, rfl⟩
  obtain ⟨k2, hk2⟩ : ∃ z, z = k0 + (y1 + y2) := ⟨_, rfl⟩
  have HK1 := Lib.hid hk1
  have HK2 := Lib.hid hk2
  have HK3 : Hid (k1 + y2 = k2) := by show k1 + y2 = k2; omega
  have hk1b : 0 < k1 := by omega
  have hk1c : k1 + y2 ≤ 1000000000000 := by omega
  have hk0c : k0 + y1 ≤ 1000000000000 := by omega
  clear hk1 hk2
  go_enter Try.func19, Try.ntmps19
  go_wp2_with fail
  refine (markStringS_own _ s.1 k0 l1 h1' _ HO1.out h1 (by rw [← HY1.out]; exact hk0c)).mono ?_
  rintro e w2 ⟨rfl, om1, t2⟩
  rw [← HY1.out] at om1 ⊢
  rw [← HK1.out]
  have s2 := t2.size
  replace c1 := cell_keepT c1 (by omega) t2 (by omega)
  have HO3 := Lib.hid (HO2.out.keep t2 (by omega))
  go_wp2_with fail
  refine (markBoolS_own _ s.2.1 k1 l2 h2' _ HO3.out (by rw [← HY2.out]; exact hk1c)).mono ?_
  rintro e w3 ⟨rfl, om2, t3⟩
  rw [← HY2.out] at om2 ⊢
  rw [HK3.out]
  go_wp2_with fail
  go_ret
  refine ⟨by rw [HK2.out]; rfl, ⟨l1, h1', l2, h2', g1, g2, g3, g4, g5, om1.keep t3 (by omega), by rw [HK1.out] at om2; exact om2⟩, ?_⟩
  have t1' : TurnIn lo hi w (w.alloc (.cells #[.slice A n c, .slice B m d, .int .i64 zz] 33)) := ⟨a1.os, a1.tape, a1.output, a1.size, fun i hi' _ => a1.block i hi' (by omega)⟩
  exact turn_trans (turn_trans t1' t2 (by omega)) t3 (by omega)

set_option maxRecDepth 100000 in
set_option maxHeartbeats 1000000 in
theorem heldPeel_own (v u : Value) (k0 n m : Nat) (zz : Int) (w : World) (hv : Seen w v (strs (marksP k0 n m zz).1)) (hu : Seen w u (bls (marksP k0 n m zz).2.1)) (h1 : 0 < k0) (hk0 : k0 + (n + m) ≤ 1000000000000) :
    Calls Try.prog 20 #[.agg #[v, u, .int .i64 zz], .int .i64 k0] w (RetInt w ((k0 + (n + m) : Nat) : Int)) := by
  obtain ⟨A, c, hvv⟩ := hv.len
  obtain ⟨B, d, huu⟩ := hu.len
  simp only [marksP, strs_length, marksS_length, bls_length, marksL_length] at hvv huu
  subst hvv huu
  have a1 := turn_alloc w (.cells #[.slice A n c, .slice B m d, .int .i64 zz] 33)
  have l1 := alloc_lt w (.cells #[.slice A n c, .slice B m d, .int .i64 zz] 33)
  have c0 := alloc_tri0 w (.slice A n c) (.slice B m d) (.int .i64 zz) 33
  have c1 := alloc_tri1 w (.slice A n c) (.slice B m d) (.int .i64 zz) 33
  have HV : Hid (Seen _ _ (strs (marksS k0 n))) := Lib.hid (hv.touch a1)
  have HU : Hid (Seen _ _ (bls (marksL (k0 + n) m))) := Lib.hid (hu.touch a1)
  clear hv hu
  obtain ⟨k1, hk1⟩ : ∃ z, z = k0 + n := ⟨_, rfl⟩
  obtain ⟨k2, hk2⟩ : ∃ z, z = k0 + (n + m) := ⟨_, rfl⟩
  rw [← hk1] at HU
  rw [← hk2]
  have hn1 : ¬ (k1 : Int) < 0 := by omega
  have hn2 : ¬ (k2 : Int) < 0 := by omega
  have hk1b : 0 < k1 := by omega
  have hk1c : k1 + m ≤ 1000000000000 := by omega
  have hk0c : k0 + n ≤ 1000000000000 := by omega
  have HK1 := Lib.hid hk1
  have HK3 : Hid (k1 + m = k2) := by show k1 + m = k2; omega
  clear hk1 hk2
  go_enter Try.func20, Try.ntmps20
  go_wp2_with fail
  refine (heldStringS_own _ k0 n _ HV.out h1 hk0c).mono ?_
  rintro e w2 ⟨rfl, t2⟩
  rw [← HK1.out]
  replace c1 := cell_turn t2 c1 l1
  have HU3 := Lib.hid (HU.out.touch t2)
  go_wp2_with fail
  refine (heldBoolS_own _ k1 m _ HU3.out hk1c).mono ?_
  rintro e w3 ⟨rfl, t3⟩
  rw [HK3.out]
  go_wp2_with fail
  go_ret
  exact ⟨rfl, turn_trans (turn_trans a1 t2 (by omega)) t3 (by omega)⟩

end Go.Proofs.Ytjklngheehhggaa

/- SplitText: the model's and the program's. -/
namespace Go.Proofs.Ytjklngheehhggaa
open Go.RowKit G294

end Go.Proofs.Ytjklngheehhggaa

/- SplitText: the program's. -/
namespace G294
open Go Go.RowKit
theorem own_setCells {base g n cap : Nat} {e : TypeId} : ∀ (vs : List Value) (o : Nat) (w : World) (xs : List Value), w.ownsRow base e 1 (.slice (some ⟨g, 0, none⟩) n cap) n xs → o + vs.length ≤ n →
    (w.setCells g o vs).ownsRow base e 1 (.slice (some ⟨g, 0, none⟩) n cap) n (xs.take o ++ (vs ++ xs.drop (o + vs.length))) ∧ w.grownBy (w.setCells g o vs) (some g)
  | [], o, w, xs, h, hl => ⟨by simpa [World.setCells] using h, World.grownBy.refl _ _⟩
  | v :: r, o, w, xs, h, hl => by
    have hx : xs.length = n := by have := h.1; omega
    have hs := h.stored o v
    have ih := own_setCells r (o + 1) _ _ hs.1 (by simp at hl; omega)
    refine ⟨?_, hs.2.trans ih.2⟩
    have e : xs.take o ++ (v :: r ++ xs.drop (o + (v :: r).length)) = (xs.set o v).take (o + 1) ++ (r ++ (xs.set o v).drop (o + 1 + r.length)) := by
      have ho : o < xs.length := by simp at hl; omega
      rw [List.take_succ_eq_append_getElem (by simpa using ho)]
      simp only [List.getElem_set_self, List.take_set_of_le (Nat.le_refl o), List.append_assoc, List.cons_append, List.nil_append, List.length_cons]
      rw [List.drop_set_of_lt (by omega)]
      congr 4
      omega
    rw [e]
    exact ih.1
/-- copy(dst, s) of a text that is no longer than the row, onto a row of the call's own -/
theorem run_copy_str {P : Program} {w : World} (dT sT ty elem : TypeId) (hu : P.underlying dT = some (.slice elem)) (hsz : ∀ w, (Go.sizeOf elem).run P w = .ok 1 w)
    (base g n cap : Nat) (t : List UInt8) (xs : List Value) (hown : w.ownsRow base elem 1 (.slice (some ⟨g, 0, none⟩) n cap) n xs) (hle : t.length ≤ n) :
    ∃ w', (Builtin.copy_ #[dT, sT] ty #[.slice (some ⟨g, 0, none⟩) n cap, .string (str t)]).run P w = .ok (goInt t.length) w' ∧ w'.ownsRow base elem 1 (.slice (some ⟨g, 0, none⟩) n cap) n (bys t ++ xs.drop t.length) ∧ w.grownBy w' (some g) := by
  have hx : xs.length = n := by have := hown.1; omega
  have hrun := run_copy_string (P := P) w dT sT ty elem g 0 n cap (str t) hu hsz (by rw [str_size]; exact hle) (fun j hj => by
    rw [str_size] at hj
    rw [Nat.zero_add, hown.cellAt j (by omega), List.getElem?_eq_getElem (by omega)]; rfl) (fun j hj => by rw [Nat.zero_add]; exact hown.frozenAt j)
  have hst := own_setCells (bys t) 0 w xs hown (by simpa using hle)
  have hm : ((str t).data.toList.map fun x => Value.int .u8 (x.toNat : Int)) = bys t := by simp [str, bys]
  rw [hm, str_size] at hrun
  exact ⟨_, hrun, by simpa using hst.1, hst.2⟩
/-- a part of a row of bytes -/
theorem seen_part {E : TypeId} {w : World} {lo hi g n cap a z : Nat} {l : List UInt8} (h : OwnBytes E w lo hi (.slice (some ⟨g, 0, none⟩) n cap) l) (hl : l.length = n) (hc : cap ≤ maxLen) (hnc : n ≤ cap) (ha : a + z ≤ n) :
    Seen w (.slice (some ⟨g, a, none⟩) z (cap - a)) (bys ((l.drop a).take z)) := by
  have hlen : ((l.drop a).take z).length = z := by rw [List.length_take, List.length_drop]; omega
  refine ⟨_, cap - a, by rw [bys_length, hlen], by rw [bys_length, hlen]; omega, by omega, fun _ => ⟨g, a, rfl, (h.1.lt g rfl).2, fun i u hu => ?_⟩⟩
  have hi : i < ((l.drop a).take z).length := by have := (List.getElem?_eq_some_iff.1 hu).1; simpa using this
  rw [bys_get _ i hi] at hu
  rw [hlen] at hi
  have hc' := h.1.cells (g := g) rfl (a + i) _ (bys_get l (a + i) (by omega))
  rw [Addr.add_lit, Nat.zero_add] at hc'
  rw [hc', ← hu]
  simp
theorem seen_part0 {w : World} {A : Option Addr} {c : Nat} (hc : c ≤ maxLen) (l : List UInt8) (hl : l = []) : Seen w (.slice A 0 c) (bys l) := by
  subst hl
  exact ⟨A, c, rfl, Nat.zero_le _, hc, fun h => by simp at h⟩
end G294
namespace Go.Proofs.Ytjklngheehhggaa
open Go.RowKit G294

theorem sizeByte (w : World) : (Go.sizeOf 5).run Try.prog w = .ok 1 w := by
  obtain ⟨i0, hi0, hz0, hz1, hz2⟩ := info_parts infoByte
  simp [Go.sizeOf, typeInfo, hi0, hz1]

end Go.Proofs.Ytjklngheehhggaa
