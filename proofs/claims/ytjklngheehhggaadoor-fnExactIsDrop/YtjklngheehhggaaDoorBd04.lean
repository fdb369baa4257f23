/- Joined texts: DrpWalks, BytesOwn, CloneT, FieldBytes, FieldOps, Elim, Comb. -/
import Derived.Test.YtjklngheehhggaaDoorBd02
import Derived.Test.YtjklngheehhggaaDoorBd03
import Derived.Test.YtjklngheehhggaaDoorBd00
import Derived.Lib.Strings
import Derived.Lib.Walk
import Derived.Lib.BufferWrite
import Derived.Lib.UnsafeStr
import Derived.Lib.Hide
import Derived.Laws.MakeOwn
import Derived.WalkKit
import Derived.Test.YtjklngheehhggaaDoorBd01
import Derived.BigRegion
import Derived.StillTailTactics
set_option linter.unusedSimpArgs false
set_option linter.unusedVariables false
/- Contracts of the laws' helpers on []Drop: equality, marks, marks held. -/
namespace Go.Proofs.YtjklngheehhggaaDoor
open Go.RowKit G294

theorem infoDrop : (Tryd.prog.info? 27).map (fun i => (i.zero, i.size, i.bytes)) = some (some (.agg #[.int .i64 0, .string ⟨#[]⟩]), 2, 24) := by kernel_rfl

set_option maxRecDepth 100000 in
set_option maxHeartbeats 1000000 in
theorem eqDrop_same (n : Int) (s : List UInt8) (w : World) : Calls Tryd.prog 26 #[.agg #[.int .i64 n, .string (str s)], .agg #[.int .i64 n, .string (str s)]] w (RetBool w true) := by
  have hb0 : Below w.heap.size w (w.alloc (.cells #[.int .i64 n, .string (str s)] 27)) := (Below.refl _ _).alloc (Nat.le_refl _) _
  have hb1 : Below w.heap.size w ((w.alloc (.cells #[.int .i64 n, .string (str s)] 27)).alloc (.cells #[.int .i64 n, .string (str s)] 27)) := hb0.alloc (by simp) _
  have hbb := str_same s
  have hnn : ((n : Int) != (n : Int)) = false := by simp
  clear hb0
  go_enter Tryd.func26, Tryd.ntmps26
  go_wp2_with fail
  go_ret
  exact ⟨rfl, TurnIn.of_below hb1⟩

set_option maxRecDepth 100000 in
set_option maxHeartbeats 1000000 in
theorem eqDropS_same (v u : Value) (l : List Sh) (w : World) (hv : SeenH w v l) (hu : SeenH w u l) :
    Calls Tryd.prog 31 #[v, u] w (RetBool w true) := by
  obtain ⟨A, c, rfl, hlc, hcm, hx⟩ := hv
  obtain ⟨A', c', rfl, hlc', hcm', hx'⟩ := hu
  unfold maxLen at hcm hcm'
  generalize hnn : l.length = n at *
  have HN := Lib.hid hnn
  clear hnn
  have hbn : ((n : Int) != (n : Int)) = false := by simp
  go_enter Tryd.func31, Tryd.ntmps31
  go_wp2_with fail
  go_loopw [5] (fun i wr => ∃ k : Nat, k ≤ n ∧ i = .int .i64 k ∧ Below w.heap.size w wr)
    (fun i _ => n - (intOf i).toNat)
  case atStart => exact ⟨0, Nat.zero_le _, rfl, Below.refl _ _⟩
  case round =>
    obtain ⟨k, hk, rfl, hb⟩ := hrel
    by_cases hlt : k < n
    · obtain ⟨b, off, rfl, hbl, hcell⟩ := hx (by omega)
      obtain ⟨b', off', rfl, hbl', hcell'⟩ := hx' (by omega)
      obtain ⟨⟨no, s⟩, hks⟩ := at_lt HN.out hlt
      have hc1 := (hb.cell (p := ⟨b, off + k * 2, none⟩) hbl).trans (hcell k _ hks).1
      have hc2 := (hb.cell (p := ⟨b, off + k * 2 + 1, none⟩) hbl).trans (hcell k _ hks).2
      have hd1 := (hb.cell (p := ⟨b', off' + k * 2, none⟩) hbl').trans (hcell' k _ hks).1
      have hd2 := (hb.cell (p := ⟨b', off' + k * 2 + 1, none⟩) hbl').trans (hcell' k _ hks).2
      simp only at hc1 hc2 hd1 hd2
      clear hcell hcell' hx hx'
      have hbs := hb.size
      have hki : (k : Int) < (n : Int) := by omega
      go_wp2_with fail
      go_region_held3 (fun w' => (w'.cell? ⟨b, off + k * 2, none⟩ = some (.int .i64 no) ∧ w'.cell? ⟨b, off + k * 2 + 1, none⟩ = some (.string (str s))) ∧ w'.cell? ⟨b', off' + k * 2, none⟩ = some (.int .i64 no) ∧ w'.cell? ⟨b', off' + k * 2 + 1, none⟩ = some (.string (str s)))
        (first | exact ⟨⟨hc1, hc2⟩, hd1, hd2⟩ | exact ⟨⟨cell_turn ht hc1 (by simp; omega), cell_turn ht hc2 (by simp; omega)⟩, cell_turn ht hd1 (by simp; omega), cell_turn ht hd2 (by simp; omega)⟩)
        ((go_at_call 26; refine (eqDrop_same no s _).mono ?_; rintro e w' ⟨rfl, ht⟩))
      all_goals
        have hb2 : Below w.heap.size w w' := ht.base (below_drewN hb 1) (by simp; omega) (by omega)
        go_wp2_with fail
        go_roundw
        case rel => exact ⟨k + 1, by omega, by go_num, hb2⟩
        case measure => simp [intOf]; omega
    · obtain rfl : k = n := by omega
      go_wp2_with fail
      go_ret
      exact ⟨rfl, TurnIn.of_below hb⟩

set_option maxRecDepth 100000 in
set_option maxHeartbeats 2000000 in
theorem markDropS_own (v : Value) (l : List Sh) (k0 lo hi : Nat) (w : World) (hv : OwnSh 27 w lo hi v l) (h1 : 0 < k0) (hk0 : k0 + l.length * 2 ≤ 1000000000000) :
    Calls Tryd.prog 32 #[v, .int .i64 k0] w (RetMarkH 27 w lo hi v k0 l.length) := by
  have hown0 := hv
  rcases hv.1.2 with ⟨rfl, hn⟩ | ⟨g, cap, cur, rfl, hbg, hg, hnc, hcm, hcs, ht⟩
  · have : l = [] := List.eq_nil_of_length_eq_zero hn
    subst this
    have HE := Lib.hid hown0
    clear hown0 hv hn
    go_enter Tryd.func32, Tryd.ntmps32
    go_wp2_with fail
    refine wp_loop_once ?_
    go_wp2_with fail
    go_ret
    exact ⟨rfl, HE.out, ⟨rfl, rfl, rfl, Nat.le_refl _, fun _ _ _ => rfl⟩⟩
  · have hgh : g < hi := hv.2.2 g rfl
    have htop : hi ≤ w.heap.size := hv.2.1
    replace hown0 := hv.1
    clear hv hg ht hcs
    unfold maxLen at hcm
    generalize hnn : l.length = n at *
    have HN := Lib.hid hnn
    clear hnn
    go_enter Tryd.func32, Tryd.ntmps32
    go_wp2_with fail
    go_loopw [1, 5] (fun q i wr => ∃ k : Nat, k ≤ n ∧ i = .int .i64 k ∧ q = .int .i64 ((k0 + k * 2 : Nat) : Int) ∧ wr.ownsRow lo 27 2 (.slice (some ⟨g, 0, none⟩) n cap) n (shs ((marksH k0 n).take k ++ l.drop k)) ∧ TurnIn lo hi w wr)
      (fun _ i _ => n - (intOf i).toNat)
    case atStart => exact ⟨0, Nat.zero_le _, rfl, by simp, by simpa using hown0, ⟨rfl, rfl, rfl, Nat.le_refl _, fun _ _ _ => rfl⟩⟩
    case round =>
      obtain ⟨k, hk, rfl, rfl, hown, hgr⟩ := hrel
      clear hown0
      by_cases hlt : k < n
      · have hki : (k : Int) < (n : Int) := by omega
        have hlen : ((marksH k0 n).take k ++ l.drop k).length = n := by simp [HN.out]; omega
        obtain ⟨⟨no, s⟩, hks⟩ := at_lt hlen hlt
        obtain ⟨hkl, hke⟩ := List.getElem?_eq_some_iff.1 hks
        have hco : wr.cell? ⟨g, k * 2, none⟩ = some (.int .i64 no) := by
          rw [hown.cellAt (k * 2) (by omega), shs_no _ k hkl, hke]
        have hfr := hown.frozenAt (k * 2)
        have hst := hown.stored (k * 2) (.int .i64 ((k0 + k * 2 : Nat) : Int))
        have hst2 : TurnIn lo hi w _ := turn_trans hgr (TurnIn.of_grown (lo := lo) (hi := hi) hst.2 (fun g' e => by simp [Value.ownBlock] at e; omega)) (by omega)
        have HL : Hid ((((shs ((marksH k0 n).take k ++ l.drop k)).set (k * 2) (.int .i64 ((k0 + k * 2 : Nat) : Int))).set (k * 2 + 1) (.string (str (mtext (k0 + k * 2 + 1))))) = shs ((marksH k0 n).take (k + 1) ++ l.drop (k + 1))) := by
          show _ = _
          rw [shs_set _ k (((k0 + k * 2 : Nat) : Int), mtext (k0 + k * 2 + 1)) hkl, take_set_over _ _ k _ (by rw [List.getElem?_eq_getElem (by simpa using hlt), marksH_get]) (by simp [HN.out])]
        have HD : Hid ((shs ((marksH k0 n).take k ++ l.drop k))[k * 2 + 1]? = some (.string (str s))) := by
          show _ = _
          rw [shs_data _ k hkl, hke]
        have HC1 : Hid (((k0 + k * 2 : Nat) : Int) + 1 = ((k0 + k * 2 + 1 : Nat) : Int)) := (Int.natCast_add _ 1).symm
        generalize shs ((marksH k0 n).take k ++ l.drop k) = XS at *
        obtain ⟨m, hm⟩ : ∃ m, m = k0 + k * 2 := ⟨_, rfl⟩
        rw [← hm] at hst hst2 HL HC1 ⊢
        have hm1 : m + 2 ≤ 1000000000000 := by omega
        have hm0 : 0 < m := by omega
        have HM := Lib.hid hm
        have hst1 := hst.1
        have HB2 := Lib.hid hst2
        have HCT : Hid (∀ W, Calls Tryd.prog 94 #[.int .i64 ((m : Int) + 1)] W (RetStr W (mtext (m + 1)))) := fun W => HC1.out ▸ markText_ret (m + 1) W (by omega) (by omega)
        clear hst hown hke hkl hks hlen hgr hst2 hm
        go_wp2_with fail
        refine (HCT.out _).mono ?_
        rintro e w' ⟨rfl, ht⟩
        have hown' := owns_turn0 hst1 ht
        have hsz := ht.size
        have hgs := HB2.out.size
        have hco2 : w'.cell? ⟨g, k * 2 + 1, none⟩ = some (.string (str s)) := by
          rw [hown'.cellAt (k * 2 + 1) (by omega), List.getElem?_set_ne (by omega)]; exact HD.out
        have hfr2 := hown'.frozenAt (k * 2 + 1)
        have hst3 := hown'.stored (k * 2 + 1) (.string (str (mtext (m + 1))))
        rw [HL.out] at hst3
        have hst4 : TurnIn lo hi w _ := turn_trans (turn_trans HB2.out ht (by omega)) (TurnIn.of_grown (lo := lo) (hi := hi) hst3.2 (fun g' e => by simp [Value.ownBlock] at e; omega)) (by omega)
        have hst5 := hst3.1
        clear hst3 hown' hst1
        go_wp2_with fail
        go_roundw
        case rel => exact ⟨k + 1, by omega, by go_num, by have := HM.out; go_num, hst5, hst4⟩
        case measure => simp [intOf]; omega
      · obtain rfl : k = n := by omega
        go_wp2_with fail
        go_ret
        refine ⟨rfl, ?_, hgr⟩
        rw [List.take_of_length_le (by simp), List.drop_of_length_le (by rw [HN.out]; exact Nat.le_refl _), List.append_nil] at hown
        exact ⟨by simpa using hown, Nat.le_trans htop hgr.size, fun g' e => by simp [Value.ownBlock] at e; omega⟩

end Go.Proofs.YtjklngheehhggaaDoor

/- The helpers on []byte, by intervals. -/
namespace Go.Proofs.YtjklngheehhggaaDoor
open Go.RowKit G294

theorem retBytesOk_of {w : World} {l : List UInt8} {ok : Bool} {e : Ending} {w' : World} (h : MadeOk w 5 (bys l) ok e w') : RetBytesOk 5 w l ok e w' := by
  obtain ⟨v', he, ho, hb⟩ := h
  exact ⟨v', he, OwnBytes.of_made (by simpa using ho), TurnIn.of_below hb⟩

end Go.Proofs.YtjklngheehhggaaDoor

/- strings.Clone: the same bytes. -/
namespace Go.Proofs.YtjklngheehhggaaDoor
open Go.RowKit G294

set_option maxHeartbeats 4000000 in
set_option maxRecDepth 100000 in
theorem sliteClone_own (s : ByteArray) (w : World) (hlim : s.size ≤ 1000000) : Calls Tryd.prog 217 #[.string s] w fun e w' => e = .returned (.string s) ∧ TurnIn 0 0 w w' := by
  by_cases h0 : s.size = 0
  · have hs : s = ⟨#[]⟩ := by
      apply ByteArray.ext
      exact Array.eq_empty_of_size_eq_zero h0
    subst hs
    go_enter Tryd.func217, Tryd.ntmps217
    go_wp2_with fail
    go_ret
    exact ⟨rfl, TurnIn.refl _⟩
  · obtain ⟨i0, hi, hz0, hz1, hz2⟩ := info_parts infoByte
    have hinfo : (Tryd.prog.info? 5).map (·.size) = some 1 := by rw [hi]; simp [hz1]
    have hco : Tryd.prog.cellsOf 5 = 1 := by simp [Program.cellsOf, hi, hz1]
    obtain ⟨M, hM⟩ : ∃ M, M = madeCells (Value.int .u8 0).cells (((s.size : Nat) : Int).toNat * i0.size) := ⟨_, rfl⟩
    have hMs : M.size = s.size := by rw [hM, size_madeCells, hz1]; simp
    have hmk : ∀ W : World, (Instr.makeSlice 22 (.int .i64 (s.size : Int)) (.int .i64 (s.size : Int))).run Tryd.prog W = .ok (.slice (some ⟨W.heap.size, 0, none⟩) s.size s.size) (W.alloc (.cells M 5)) := fun W => by
      have h := run_make (P := Tryd.prog) W 22 5 i0 (.int .u8 0) Tryd.underlying22 hi hz0 .i64 .i64 (s.size : Int) (s.size : Int) (by omega) (by omega) (by rw [hz2]; omega) (by omega)
      rw [← hM] at h
      simpa using h
    clear hM
    have hcp := Lib.run_copy_row_string (P := Tryd.prog) (w.alloc (.cells M 5)) 22 9 3 5 w.heap.size 0 s.size s.size s M 5 Tryd.underlying22 hinfo (heap_alloc_new w _) (Nat.le_refl _) (by omega)
    obtain ⟨Y, hY⟩ : ∃ Y, Y = (M.toList.take 0 ++ Lib.byteCells s.data.toList ++ M.toList.drop (0 + s.size)).toArray := ⟨_, rfl⟩
    rw [← hY] at hcp
    have hYl : Y.toList = Lib.byteCells s.data.toList := by
      rw [hY, List.toList_toArray, List.take_zero, List.nil_append, List.drop_of_length_le (by rw [Array.length_toList]; omega), List.append_nil]
    have hYs : Y.size = s.size := by rw [← Array.length_toList, hYl, Lib.byteCells_length, ← Lib.size_eq]
    have hgY : ((w.alloc (.cells M 5)).setRow w.heap.size Y).heap[w.heap.size]? = some (.cells Y 5 (0, 0)) := setRow_heap _ _ M _ 5 (0, 0) (heap_alloc_new w _)
    have hne : s.data.toList ≠ [] := fun e => h0 (by rw [Lib.size_eq, e]; rfl)
    have hUS := Lib.run_unsafeString_row (P := Tryd.prog) ((w.alloc (.cells M 5)).setRow w.heap.size Y) 247 3 9 5 Tryd.underlying247 hco w.heap.size Y.size (by unfold World.shape?; rw [hgY]) s.data.toList hne (by rw [← Lib.size_eq]; omega) (by rw [← Lib.size_eq]; omega)
      (fun j x hx => Lib.cells_of_row hgY Y.size j _ (by rw [List.take_of_length_le (by rw [Array.length_toList]; exact Nat.le_refl _), hYl]; simp [Lib.byteCells, hx]))
    rw [← Lib.size_eq] at hUS
    clear hY
    go_enter Tryd.func217, Tryd.ntmps217
    go_wp2_with fail
    go_ret
    have hb1 : Below w.heap.size w (w.alloc (.cells M 5)) := (Below.refl _ w).alloc (Nat.le_refl _) _
    have hb2 : Below w.heap.size (w.alloc (.cells M 5)) ((w.alloc (.cells M 5)).setRow w.heap.size Y) := ⟨rfl, rfl, rfl, by simp, fun k hk => setRow_other _ _ _ _ (by omega)⟩
    exact ⟨rfl, TurnIn.of_below (Lib.below_freeze (hb1.trans hb2) (p := ⟨w.heap.size, 0, none⟩) (Nat.le_refl _) _)⟩

set_option maxHeartbeats 1000000 in
theorem clone_own (s : List UInt8) (w : World) (hl : s.length ≤ 1000000) : Calls Tryd.prog 196 #[.string (str s)] w (RetStr w s) := by
  have HC := Lib.hid (sliteClone_own (str s) w (by rw [str_size]; exact hl))
  go_enter Tryd.func196, Tryd.ntmps196
  go_wp2_with fail
  refine HC.out.mono ?_
  rintro e w' ⟨rfl, k⟩
  go_wp2_with fail
  go_ret
  exact ⟨rfl, k⟩

end Go.Proofs.YtjklngheehhggaaDoor

/- The contracts of the products, on bytes. -/
namespace Go.Proofs.YtjklngheehhggaaDoor
open Go.RowKit G294

theorem times_u8 (a b : UInt8) (w : World) (ht : Tab w) :
    Calls Tryd.prog 139 #[.int .u8 (a.toNat : Int), .int .u8 (b.toNat : Int)] w fun e w' => e = .returned (.int .u8 ((gmul a b).toNat : Int)) ∧ w = w' := by
  rw [gmul_toNat]; exact times_any _ _ a.toNat_lt b.toNat_lt w ht

theorem l1Times_u8 (a b : UInt8) (w : World) :
    Calls Tryd.prog 159 #[.int .u8 (a.toNat : Int), .int .u8 (b.toNat : Int)] w fun e w' => e = .returned (.int .u8 ((gmul a b).toNat : Int)) ∧ w = w' := by
  rw [gmul_toNat]; exact l1Times_any _ _ a.toNat_lt b.toNat_lt w

end Go.Proofs.YtjklngheehhggaaDoor

/- The methods of field bytes. -/
namespace Go.Proofs.YtjklngheehhggaaDoor
open Go.RowKit G294

set_option maxHeartbeats 400000 in
theorem fbTimes_any (a b : UInt8) (w : World) (ht : Tab w) :
    Calls Tryd.prog 267 #[.int .u8 (a.toNat : Int), .int .u8 (b.toNat : Int)] w fun e w' => e = .returned (.int .u8 ((gmul a b).toNat : Int)) ∧ w = w' := by
  go_enter Tryd.func267, Tryd.ntmps267
  go_wp2_with fail
  refine (times_u8 a b _ ht).mono ?_
  rintro e w' ⟨rfl, rfl⟩
  go_wp2_with fail
  go_ret
  exact ⟨rfl, rfl⟩

set_option maxHeartbeats 400000 in
theorem fbPlus_any (a b : UInt8) (w : World) :
    Calls Tryd.prog 266 #[.int .u8 (a.toNat : Int), .int .u8 (b.toNat : Int)] w fun e w' => e = .returned (.int .u8 ((a ^^^ b).toNat : Int)) ∧ w = w' := by
  have HX := Lib.hid (xor_u8 a b)
  go_enter Tryd.func266, Tryd.ntmps266
  go_wp2_with fail
  go_ret
  exact ⟨by rw [← HX.out]; rfl, rfl⟩

set_option maxHeartbeats 400000 in
theorem fbInverse_any (a : UInt8) (w : World) (ht : Tab w) :
    Calls Tryd.prog 265 #[.int .u8 (a.toNat : Int)] w fun e w' => e = .returned (.int .u8 ((ginv a).toNat : Int)) ∧ w = w' := by
  have HI := Lib.hid (ginv_toNat a)
  go_enter Tryd.func265, Tryd.ntmps265
  go_wp2_with fail
  refine (inverse_any a.toNat a.toNat_lt _ ht).mono ?_
  rintro e w' ⟨rfl, rfl⟩
  go_wp2_with fail
  go_ret
  exact ⟨by rw [HI.out]; rfl, rfl⟩

theorem methTimes (x : Int) (w : World) : (method 382 212 (.int .u8 x) "loop.example/g00294/impl.times").run Tryd.prog w = .ok (267, .int .u8 x) w := by kernel_rfl

theorem methPlus (x : Int) (w : World) : (method 382 212 (.int .u8 x) "loop.example/g00294/impl.plus").run Tryd.prog w = .ok (266, .int .u8 x) w := by kernel_rfl

theorem methInverse (x : Int) (w : World) : (method 382 212 (.int .u8 x) "loop.example/g00294/impl.inverse").run Tryd.prog w = .ok (265, .int .u8 x) w := by kernel_rfl
end Go.Proofs.YtjklngheehhggaaDoor

/- Elimination in place: pivotBelow, scaleRow, clearColumn, eliminate. -/
namespace Go.Proofs.YtjklngheehhggaaDoor
open Go.RowKit G294

def pivV (o : Option Nat) : Value := match o with
  | none => .tuple #[.int .i64 0, .bool false]
  | some k => .tuple #[.int .i64 k, .bool true]

set_option maxRecDepth 100000 in
set_option maxHeartbeats 1000000 in
theorem pivotBelow_any (r c a j : Nat) (F : Ents) (v : Value) (w : World) (hs : SeenM w v (mkM r c F)) (hr1 : 1 ≤ r) (hr : r ≤ 1000) (hc : c ≤ 1000) (ha : a ≤ r) (hj : j < c) :
    Calls Tryd.prog 224 #[v, .int .i64 a, .int .i64 j] w fun e w' => e = .returned (pivV (piv F r a j)) ∧ w = w' := by
  have HS := Lib.hid hs
  obtain ⟨A, cp, hvv, _, _⟩ := hs.len
  rw [mkM_length] at hvv
  subst hvv
  clear hs
  go_enter Tryd.func224, Tryd.ntmps224
  go_wp2_with fail
  go_loop [9] (fun i => ∃ k : Nat, a ≤ k ∧ k ≤ r ∧ i = .int .i64 k ∧ Hid (∀ i, a ≤ i → i < k → F i j = 0)) (fun i => r - (intOf i).toNat)
  case atStart => exact ⟨a, Nat.le_refl _, ha, rfl, fun i h1 h2 => by omega⟩
  case round =>
    obtain ⟨k, hak, hk, rfl, HK⟩ := hrel
    by_cases hlt : k < r
    · have hki : (k : Int) < (r : Int) := by omega
      have hji : (j : Int) < (c : Int) := by omega
      obtain ⟨bb, off, cp5, b', off', c', e6, hl5, h5, h6, h7, hl6, h8⟩ := HS.out.cellF k j hlt hj
      simp only [Value.slice.injEq] at e6
      obtain ⟨rfl, z9, rfl⟩ := e6
      clear z9
      unfold maxLen at hl5 hl6
      by_cases h0 : F k j = 0
      · have hb : (((F k j).toNat : Int) != 0) = false := by rw [h0]; rfl
        have HK2 : Hid (∀ i, a ≤ i → i < k + 1 → F i j = 0) := fun i h1 h2 => by
          by_cases e : i = k
          · rw [e]; exact h0
          · exact HK.out i h1 (by omega)
        clear h0
        go_wp2_with fail
        go_round
        case rel => exact ⟨k + 1, by omega, by omega, by go_num, HK2⟩
        case measure => simp [intOf]; omega
      · have hb : (((F k j).toNat : Int) != 0) = true := by
          rw [bne_iff_ne]; intro e
          exact h0 (u8_ext (by simpa using e))
        have HP := Lib.hid (piv_some hak hlt h0 HK.out)
        clear h0
        go_wp2_with fail
        go_ret2
        exact ⟨by rw [HP.out]; rfl, rfl⟩
    · obtain rfl : k = r := by omega
      have hki : ¬ (k : Int) < (k : Int) := by omega
      have HP := Lib.hid (piv_none HK.out)
      go_wp2_with fail
      go_ret2
      exact ⟨by rw [HP.out]; rfl, rfl⟩

/-- row k turns in place -/
def RowTurn (E EE : TypeId) (w : World) (lo hi : Nat) (v : Value) (L : Mat) (vs : List Value) (e : Ending) (w' : World) : Prop := e = .returned (.tuple #[]) ∧ OwnM E EE w' lo hi v L vs ∧ TurnIn lo hi w w'

set_option maxRecDepth 100000 in
set_option maxHeartbeats 1000000 in
theorem scaleRow_any (r c k lo hi : Nat) (F : Ents) (s : UInt8) (v u : Value) (vs : List Value) (w : World) (hM : OwnM 212 235 w lo hi v (mkM r c F) vs) (hk : k < r) (hu : vs[k]? = some u) (hc1 : 1 ≤ c) (hc : c ≤ 1000) (ht : Tab w) (h0 : 1 < lo) :
    Calls Tryd.prog 225 #[u, .int .u8 (s.toNat : Int)] w (RowTurn 212 235 w lo hi v (mkM r c (scF k s F)) vs) := by
  obtain ⟨bb, cp, hu2, e1, e2, e3, e4, e5, hfz, hcell⟩ := hM.rowF k hk hc1
  obtain rfl : u = .slice (some ⟨bb, 0, none⟩) c cp := Option.some.inj (hu.symm.trans hu2)
  have HU := Lib.hid hu
  have HM0 := Lib.hid (hM.congr (L' := mkM r c fun i j => if i = k ∧ j < 0 then gmul s (F k j) else F i j) (mkM_congr fun i j _ _ => by simp))
  have HT := Lib.hid ht
  have hm1 := methTimes
  unfold maxLen at e5
  clear hM hu hu2 hfz hcell ht
  go_enter Tryd.func225, Tryd.ntmps225
  go_wp2_with fail
  go_loopw [7] (fun i wr => ∃ m : Nat, m ≤ c ∧ i = .int .i64 m ∧ Hid (OwnM 212 235 wr lo hi v (mkM r c fun i j => if i = k ∧ j < m then gmul s (F k j) else F i j) vs) ∧ Hid (TurnIn lo hi w wr)) (fun i _ => c - (intOf i).toNat)
  case atStart => exact ⟨0, Nat.zero_le _, rfl, HM0, Lib.hid ⟨rfl, rfl, rfl, Nat.le_refl _, fun _ _ _ => rfl⟩⟩
  case round =>
    obtain ⟨m, hm, rfl, HM, HK⟩ := hrel
    by_cases hlm : m < c
    · have hmi : (m : Int) < (c : Int) := by omega
      obtain ⟨bb', cp', hu2, f1, f2, f3, f4, f5, hfz, hcell⟩ := HM.out.rowF k hk hc1
      obtain ⟨rfl, rfl⟩ : bb = bb' ∧ cp = cp' := by simpa using HU.out.symm.trans hu2
      have hcx := hcell m hlm
      have e : (if k = k ∧ m < m then gmul s (F k m) else F k m) = F k m := if_neg (by omega)
      rw [e] at hcx
      have hfr := hfz m
      have htr : Tab wr := fun i hi => (World.cell?_of_block (HK.out.block 1 (by have := HM0.out.top; omega) (by omega))).trans (HT.out i hi)
      have HTR := Lib.hid htr
      have HM2 := Lib.hid ((HM.out.storeF (j := m) (x := gmul s (F k m)) hk HU.out).congr (L' := mkM r c fun i j => if i = k ∧ j < m + 1 then gmul s (F k j) else F i j) (mkM_congr fun i j _ _ => by
        by_cases a1 : i = k
        · subst a1
          by_cases a2 : j = m
          · subst a2; simp
          · by_cases a3 : j < m
            · simp [a2, a3]; omega
            · simp [a2, a3]; omega
        · simp [a1]))
      have HK2 := Lib.hid (turn_trans HK.out (turn_setCell wr bb m (.int .u8 ((gmul s (F k m)).toNat : Int))) (by omega))
      have HC := Lib.hid (gmul_comm (F k m) s)
      clear hcell hfz hu2 f3 f5 htr e
      go_wp2_with fail
      refine (fbTimes_any (F k m) s _ HTR.out).mono ?_
      rintro e w' ⟨rfl, rfl⟩
      rw [HC.out]
      go_wp2_with fail
      go_roundw
      case rel => exact ⟨m + 1, by omega, by go_num, HM2, HK2⟩
      case measure => simp [intOf]; omega
    · obtain rfl : m = c := by omega
      have hmi : ¬ (m : Int) < (m : Int) := by omega
      go_wp2_with fail
      go_end0
      exact ⟨rfl, HM.out.congr (mkM_congr fun i j _ hj => by
        unfold scF
        by_cases a1 : i = k
        · subst a1; simp [hj]
        · simp [a1]), HK.out⟩

theorem stilly {P : Program} {f : FuncId} {args : Array Value} {w : World} {v : Value} (h : Calls P f args w fun e w' => e = .returned v ∧ w = w') :
    Calls P f args w fun e w' => e = .returned v ∧ w' = w := h.mono fun _ _ ⟨he, hw⟩ => ⟨he, hw.symm⟩

/-- column j cleared in the rows ahead of k and in the first m columns of row k -/
def clK (a j k m : Nat) (F : Ents) : Ents := fun i jj => if i < k ∨ (i = k ∧ jj < m) then clF a (fun i => F i j) F i jj else F i jj

set_option maxRecDepth 100000 in
set_option maxHeartbeats 2000000 in
theorem clearColumn_any (r c a j lo hi : Nat) (F : Ents) (v : Value) (vs : List Value) (w : World) (hM : OwnM 212 235 w lo hi v (mkM r c F) vs) (ha : a < r) (hj : j < c) (hr : r ≤ 1000) (hc : c ≤ 1000) (ht : Tab w) (h0 : 1 < lo) :
    Calls Tryd.prog 226 #[v, .int .i64 a, .int .i64 j] w (RowTurn 212 235 w lo hi v (mkM r c (clF a (fun i => F i j) F)) vs) := by
  obtain ⟨g, cp, rfl, hg1, hg2, hg3, hg4⟩ := hM.sliceF (by omega)
  have HM0 := Lib.hid (hM.congr (L' := mkM r c (clK a j 0 0 F)) (mkM_congr fun i jj _ _ => by simp [clK]))
  have HT := Lib.hid ht
  have hm1 := methTimes
  have hm2 := methPlus
  unfold maxLen at hg4
  clear hM ht
  go_enter Tryd.func226, Tryd.ntmps226
  go_wp2_with fail
  go_loopw [11] (fun i wr => ∃ k : Nat, k ≤ r ∧ i = .int .i64 k ∧ Hid (OwnM 212 235 wr lo hi (.slice (some ⟨g, 0, none⟩) r cp) (mkM r c (clK a j k 0 F)) vs) ∧ Hid (TurnIn lo hi w wr)) (fun i _ => r - (intOf i).toNat)
  case atStart => exact ⟨0, Nat.zero_le _, rfl, HM0, Lib.hid ⟨rfl, rfl, rfl, Nat.le_refl _, fun _ _ _ => rfl⟩⟩
  case round =>
    obtain ⟨k, hk, rfl, HM, HK⟩ := hrel
    by_cases hlt : k < r
    · have hki : (k : Int) < (r : Int) := by omega
      by_cases hka : k = a
      · have hbb : ((k : Int) == (a : Int)) = true := by simp [hka]
        have HM2 := Lib.hid (HM.out.congr (L' := mkM r c (clK a j (k + 1) 0 F)) (mkM_congr fun i jj _ _ => by
          unfold clK
          by_cases a1 : i = k
          · subst a1; simp [clF, hka]
          · by_cases a2 : i < k
            · simp [a2, show i < k + 1 by omega]
            · simp [a1, a2, show ¬ i < k + 1 by omega]))
        clear hka
        go_wp2_with fail
        go_roundw
        case rel => exact ⟨k + 1, by omega, by go_num, HM2, HK⟩
        case measure => simp [intOf]; omega
      · have hbb : ((k : Int) == (a : Int)) = false := by simp; omega
        obtain ⟨bk, ck, huk, k1, k2, k3, k4, k5, kfz, kcell⟩ := HM.out.rowF k hlt (by omega)
        obtain ⟨ba, ca, hua, a1, a2, a3, a4, a5, afz, acell⟩ := HM.out.rowF a ha (by omega)
        have hck := HM.out.cellAt huk
        have hcf := kcell j hj
        have ef : clK a j k 0 F k j = F k j := by simp [clK]
        rw [ef] at hcf
        have hne : bk ≠ ba := fun e => hka ((HM.out.apart a _ ba hua rfl).2 k _ huk (by rw [e]; rfl))
        have HUK := Lib.hid huk
        have HUA := Lib.hid hua
        have n1 : g ≠ bk := fun e => k3 (by rw [e]; rfl)
        have n2 : g ≠ ba := fun e => a3 (by rw [e]; rfl)
        have hji : (j : Int) < (c : Int) := by omega
        unfold maxLen at k5 a5
        have HKA := Lib.hid hka
        clear kcell acell kfz afz huk hua k3 a3 ef hka
        go_wp2_with fail
        go_loopw [29] (fun i wq => ∃ m : Nat, m ≤ c ∧ i = .int .i64 m ∧ Hid (OwnM 212 235 wq lo hi (.slice (some ⟨g, 0, none⟩) r cp) (mkM r c (clK a j k m F)) vs) ∧ Hid (TurnIn lo hi w wq)) (fun i _ => c - (intOf i).toNat)
        case atStart => exact ⟨0, Nat.zero_le _, rfl, HM, HK⟩
        case round =>
          obtain ⟨m, hm, rfl, HM, HK⟩ := hrel
          clear hck hcf
          by_cases hlm : m < c
          · have hmi : (m : Int) < (c : Int) := by omega
            have hk0 : (0 : Int) ≤ (k : Int) := Int.natCast_nonneg _
            have hm0 : (0 : Int) ≤ (m : Int) := Int.natCast_nonneg _
            have ha0 : (0 : Int) ≤ (a : Int) := Int.natCast_nonneg _
            have hai : (a : Int) < (r : Int) := by omega
            obtain ⟨bk', ck', huk, _, _, _, _, _, kfz, kcell⟩ := HM.out.rowF k hlt (by omega)
            obtain ⟨rfl, rfl⟩ : bk = bk' ∧ ck = ck' := by simpa using HUK.out.symm.trans huk
            obtain ⟨ba', ca', hua, _, _, _, _, _, afz, acell⟩ := HM.out.rowF a ha (by omega)
            obtain ⟨rfl, rfl⟩ : ba = ba' ∧ ca = ca' := by simpa using HUA.out.symm.trans hua
            have hck := HM.out.cellAt HUK.out
            have hca := HM.out.cellAt HUA.out
            have hcx := kcell m hlm
            have hcy := acell m hlm
            have hfr := kfz m
            have ex : clK a j k m F k m = F k m := by simp [clK]
            have ey : clK a j k m F a m = F a m := by unfold clK clF; split <;> simp
            rw [ex] at hcx
            rw [ey] at hcy
            have htr : Tab wr := fun i hi => (World.cell?_of_block (HK.out.block 1 (by have := HM0.out.top; omega) (by omega))).trans (HT.out i hi)
            have htd : Tab wr.drew := htr
            have HTR := Lib.hid htd
            obtain ⟨y, hyy⟩ : ∃ y : UInt8, y = F k m ^^^ gmul (F k j) (F a m) := ⟨_, rfl⟩
            have HPL : Hid (∀ W, Calls Tryd.prog 266 #[.int .u8 ((F k m).toNat : Int), .int .u8 ((gmul (F k j) (F a m)).toNat : Int)] W fun e w' => e = .returned (.int .u8 (y.toNat : Int)) ∧ w' = W) := by
              intro W
              rw [hyy]
              exact stilly (fbPlus_any (F k m) (gmul (F k j) (F a m)) W)
            have HM2 := Lib.hid (((HM.out.storeF (j := m) (x := y) hlt HUK.out).congr (L' := mkM r c (clK a j k (m + 1) F)) (mkM_congr fun i jj _ _ => by
              unfold clK
              by_cases b1 : i = k
              · subst b1
                by_cases b2 : jj = m
                · subst b2
                  have : ¬ i = a := HKA.out
                  simp [clF, this, hyy]
                · by_cases b3 : jj < m
                  · simp [b2, b3, show jj < m + 1 by omega]
                  · simp [b2, b3, show ¬ jj < m + 1 by omega]
              · simp [b1])).drewN 1)
            have hk2 := turn_trans HK.out (turn_setCell wr bk m (.int .u8 (y.toNat : Int))) (by omega)
            have HK2 : Hid (TurnIn lo hi w (wr.setCell ⟨bk, m, none⟩ (.int .u8 (y.toNat : Int))).drew) := ⟨hk2.os, hk2.tape, hk2.output, hk2.size, hk2.block⟩
            clear kcell acell kfz afz huk hua ex ey htr htd hk2 hyy
            go_wp2_with fail
            refine wp_region_still_tail 25 (by kernel_rfl) (by kernel_rfl) ?_
            simp only [List.take_succ_cons, List.take_zero, List.drop_succ_cons, List.drop_zero]
            repeat (first | still_step | still_call (stilly (fbTimes_any (F k j) (F a m) _ HTR.out)) | still_call (HPL.out _))
            refine wpStill_nil ?_
            go_wp2_with fail
            go_roundw
            case rel => exact ⟨m + 1, by omega, by go_num, HM2, HK2⟩
            case measure => simp [intOf]; omega
          · obtain rfl : m = c := by omega
            have hmi : ¬ (m : Int) < (m : Int) := by omega
            go_wp2_with fail
            go_roundw
            case rel => exact ⟨k + 1, by omega, by go_num, Lib.hid (HM.out.congr (mkM_congr fun i jj _ hjj => by
              unfold clK
              by_cases b1 : i = k
              · subst b1; simp [hjj]
              · by_cases b2 : i < k
                · simp [b2, show i < k + 1 by omega]
                · simp [b1, b2, show ¬ i < k + 1 by omega])), HK⟩
            case measure => simp [intOf]; omega
    · obtain rfl : k = r := by omega
      have hki : ¬ (k : Int) < (k : Int) := by omega
      go_wp2_with fail
      go_end0
      exact ⟨rfl, HM.out.congr (mkM_congr fun i j hi _ => by simp [clK, hi]), HK.out⟩
end Go.Proofs.YtjklngheehhggaaDoor

/- A row of a matrix by texts: the program's combined. -/
namespace G294
open Go Go.RowKit
/-- the product of a row and the bytes of texts -/
def combF (c : Nat) (f : Nat → UInt8) (T : List (List UInt8)) (p : Nat) : UInt8 := sumK c fun j => gmul (f j) (ent T j p)
def comb (c n : Nat) (f : Nat → UInt8) (T : List (List UInt8)) : List UInt8 := mkRow n (combF c f T)
theorem combF_succ (c : Nat) (f : Nat → UInt8) (T : List (List UInt8)) (p : Nat) : combF (c + 1) f T p = combF c f T p ^^^ gmul (f c) (ent T c p) := rfl
theorem str_get (t : List UInt8) (q : Nat) (h : q < (str t).size) : (str t)[q] = t.getD q 0 := by
  have h' : q < t.length := by rwa [str_size] at h
  show t.toArray[q]'(by simpa using h') = _
  simp [List.getD, h']
/-- one byte of a row of the call's own is stored -/
theorem OwnBytes.store {E : TypeId} {w : World} {lo hi g n cap q : Nat} {l l' : List UInt8} {x : UInt8} (h : OwnBytes E w lo hi (.slice (some ⟨g, 0, none⟩) n cap) l) (hn : l.length = n) (e : l.set q x = l') :
    OwnBytes E (w.setCell ⟨g, q, none⟩ (.int .u8 (x.toNat : Int))) lo hi (.slice (some ⟨g, 0, none⟩) n cap) l' := by
  have h1 := h.1
  rw [hn] at h1
  have hst := h1.stored q (.int .u8 (x.toNat : Int))
  refine ⟨?_, by simpa using h.2.1, h.2.2⟩
  have e2 : bys l' = (bys l).set q (.int .u8 (x.toNat : Int)) := by rw [← e]; simp [bys, List.map_set]
  have e3 : l'.length = n := by rw [← e]; simpa using hn
  rw [e2, e3]
  exact hst.1
theorem comb_step (n j q : Nat) (f : Nat → UInt8) (T : List (List UInt8)) : (mkRow n fun p => if p < q then combF (j + 1) f T p else combF j f T p).set q (combF (j + 1) f T q) = mkRow n fun p => if p < q + 1 then combF (j + 1) f T p else combF j f T p := by
  rw [mkRow_set]
  apply mkRow_congr
  intro p hp
  by_cases e : p = q
  · subst e; simp
  · rw [if_neg e]
    by_cases h2 : p < q
    · rw [if_pos h2, if_pos (by omega)]
    · rw [if_neg h2, if_neg (by omega)]
end G294
namespace Go.Proofs.YtjklngheehhggaaDoor
open Go.RowKit G294

set_option maxRecDepth 100000 in
set_option maxHeartbeats 4000000 in
theorem combined_own (c n : Nat) (f : Nat → UInt8) (T : List (List UInt8)) (vr vt : Value) (w : World) (hr : Seen w vr (bys (mkRow c f))) (htx : Seen w vt (strs T)) (hc : T.length = c) (hc1 : 1 ≤ c) (hcc : c ≤ 1000)
    (hn : ∀ j, j < c → (T.getD j []).length = n) (hn2 : n ≤ 1000) (ht : Tab w) (h0 : 1 < w.heap.size) : Calls Tryd.prog 74 #[vr, vt] w (RetStr w (comb c n f T)) := by
  obtain ⟨i0, hi0, hz0, hz1, hz2⟩ := info_parts infoByte
  obtain ⟨A, cp, rfl, hlc, hcm, hx⟩ := hr
  obtain ⟨A', cp', rfl, hlc', hcm', hx'⟩ := htx
  simp only [bys_length, mkRow_length] at hlc hx ⊢
  rw [strs_length, hc] at hlc' hx'
  simp only [strs_length, hc]
  unfold maxLen at hcm hcm'
  obtain ⟨b, off, rfl, hbl, hcell⟩ := hx (by omega)
  obtain ⟨b', off', rfl, hbl', hcell'⟩ := hx' (by omega)
  have hrow : ∀ j, j < c → w.cell? ⟨b, off + j, none⟩ = some (.int .u8 ((f j).toNat : Int)) := fun j hj => by
    have := hcell j _ (bys_get _ j (by simpa using hj))
    rwa [mkRow_get] at this
  have htxt : ∀ j, j < c → w.cell? ⟨b', off' + j, none⟩ = some (.string (str (T.getD j []))) := fun j hj => by
    have := hcell' j _ (strs_get T j (by omega))
    rw [this]; simp [List.getD, show j < T.length by omega]
  have hc0 := htxt 0 (by omega)
  rw [Nat.add_zero] at hc0
  have hs0 : (str (T.getD 0 [])).size = n := by rw [str_size]; exact hn 0 (by omega)
  generalize T.getD 0 [] = t0 at hc0 hs0
  have HROW := Lib.hid hrow
  have HTXT := Lib.hid htxt
  have HNN := Lib.hid hn
  have HT := Lib.hid ht
  clear hcell hcell' hx hx' hrow htxt hn ht hc
  go_enter Tryd.func74, Tryd.ntmps74
  go_wp2_with (at_make; refine wpList_make_full _ rfl _ _ _ rfl w.heap.size _ i0 _ 1 Tryd.underlying22 hi0 hz0 hz1 _ _ _ _ n rfl rfl rfl rfl ?b2 ?b3 ?b4 ?_)
  case b2 => rw [hz2]; omega
  case b3 => unfold maxLen; omega
  case b4 => exact Nat.le_refl _
  intro w1 hown1 hg1
  have hb1 : Below w.heap.size w w1 := below_of_grown hg1 (Nat.le_refl _) (by simp)
  rw [toList_madeCells_one] at hown1
  have hO : OwnBytes 5 w1 w.heap.size w1.heap.size (.slice (some ⟨w.heap.size, 0, none⟩) n n) (mkRow n (combF 0 f T)) := by
    refine OwnBytes.of_made ?_
    rw [mkRow_length, bys_zero n (combF 0 f T) (fun _ _ => rfl)]; exact hown1
  clear hg1 hown1
  go_wp2_with fail
  go_loopw [16] (fun i wr => ∃ j : Nat, j ≤ c ∧ i = .int .i64 j ∧ OwnBytes 5 wr w.heap.size wr.heap.size (.slice (some ⟨w.heap.size, 0, none⟩) n n) (mkRow n (combF j f T)) ∧ Below w.heap.size w wr)
    (fun i _ => c - (intOf i).toNat)
  case atStart => exact ⟨0, Nat.zero_le _, rfl, hO, hb1⟩
  case round =>
    obtain ⟨j, hj, rfl, hO, hb⟩ := hrel
    clear hb1 hc0 hs0
    by_cases hlt : j < c
    · have hji : (j : Int) < (c : Int) := by omega
      have hct : wr.cell? ⟨b', off' + j, none⟩ = some (.string (str (T.getD j []))) := (hb.cell (p := ⟨b', off' + j, none⟩) hbl').trans (HTXT.out j hlt)
      have hst : (str (T.getD j [])).size = n := by rw [str_size]; exact HNN.out j hlt
      have HE : Hid (∀ p, ent T j p = (T.getD j []).getD p 0) := fun p => rfl
      generalize T.getD j [] = tj at hct hst HE
      have hO2 : OwnBytes 5 wr w.heap.size wr.heap.size (.slice (some ⟨w.heap.size, 0, none⟩) n n) (mkRow n fun p => if p < 0 then combF (j + 1) f T p else combF j f T p) := by simpa using hO
      clear hO
      go_wp2_with fail
      go_loopw [23] (fun i wq => ∃ q : Nat, q ≤ n ∧ i = .int .i64 q ∧ OwnBytes 5 wq w.heap.size wq.heap.size (.slice (some ⟨w.heap.size, 0, none⟩) n n) (mkRow n fun p => if p < q then combF (j + 1) f T p else combF j f T p) ∧ Below w.heap.size w wq)
        (fun i _ => n - (intOf i).toNat)
      case atStart => exact ⟨0, Nat.zero_le _, rfl, hO2, hb⟩
      case round =>
        obtain ⟨q, hq, rfl, hO, hbq⟩ := hrel
        clear hO2 hct hb
        by_cases hlq : q < n
        · have hqi : (q : Int) < (n : Int) := by omega
          have hcs := hO.cellAt (k := q) (by simpa using hlq)
          have hfr := hO.frozenAt q
          rw [mkRow_getD _ _ _ hlq, if_neg (by omega)] at hcs
          have hcr : wr.cell? ⟨b, off + j, none⟩ = some (.int .u8 ((f j).toNat : Int)) := (hbq.cell (p := ⟨b, off + j, none⟩) hbl).trans (HROW.out j hlt)
          obtain ⟨y, hy⟩ : ∃ y, y = tj.getD q 0 := ⟨_, rfl⟩
          have hsg := str_get tj q (by omega)
          rw [← hy] at hsg
          have HY : Hid (ent T j q = y) := (HE.out q).trans hy.symm
          clear hy
          have htq : Tab wr := HT.out.below hbq h0
          have HC := Lib.hid (stilly (times_u8 (f j) y wr.drew (show Tab wr.drew from htq)))
          have hxor : bits BinOp.xor IntKind.u8 ((combF j f T q).toNat : Int) ((gmul (f j) y).toNat : Int) = ((combF (j + 1) f T q).toNat : Int) := by
            rw [xor_u8, combF_succ, HY.out]
          have hO3 := (hO.store (q := q) (x := combF (j + 1) f T q) (by simp) (comb_step n j q f T))
          have hb3 : Below w.heap.size w (wr.setCell ⟨w.heap.size, q, none⟩ (.int .u8 ((combF (j + 1) f T q).toNat : Int))) := hbq.setCell (Nat.le_refl _) _
          have HO3 := Lib.hid hO3
          have hzz : (wr.setCell ⟨w.heap.size, q, none⟩ (.int .u8 ((combF (j + 1) f T q).toNat : Int))).heap.size = wr.heap.size := by simp
          clear htq hO3
          go_wp2_with fail
          refine wp_region_still_tail 14 (by kernel_rfl) (by kernel_rfl) ?_
          simp only [List.take_succ_cons, List.take_zero, List.drop_succ_cons, List.drop_zero]
          repeat (first | still_step | still_call (HC.out))
          refine wpStill_nil ?_
          go_wp2_with fail
          go_roundw
          case rel => exact ⟨q + 1, by omega, by go_num, by
            have h := HO3.out
            refine ⟨h.1, Nat.le_refl _, fun g e => ?_⟩
            have := h.2.2 g e
            show g < (wr.setCell ⟨w.heap.size, q, none⟩ (.int .u8 ((combF (j + 1) f T q).toNat : Int))).heap.size
            rw [hzz]; exact this, hb3.drew⟩
          case measure => simp [intOf]; omega
        · obtain rfl : q = n := by omega
          have hqi : ¬ (q : Int) < (q : Int) := by omega
          go_wp2_with fail
          go_roundw
          case rel => exact ⟨j + 1, by omega, by go_num, by
            have e : (mkRow q fun p => if p < q then combF (j + 1) f T p else combF j f T p) = mkRow q (combF (j + 1) f T) := mkRow_congr fun p hp => if_pos hp
            rw [e] at hO; exact hO, hbq⟩
          case measure => simp [intOf]; omega
    · obtain rfl : j = c := by omega
      have hji : ¬ (j : Int) < (j : Int) := by omega
      have hseen : Seen wr (.slice (some ⟨w.heap.size, 0, none⟩) n n) (bys (comb j n f T)) := hO.seen
      have hconv := run_string_seen (P := Tryd.prog) 22 5 9 Tryd.underlying22 Tryd.underlying5 Tryd.underlying9 hseen
      clear hO hseen
      go_wp2_with fail
      go_ret
      exact ⟨rfl, TurnIn.of_below hb⟩

end Go.Proofs.YtjklngheehhggaaDoor
