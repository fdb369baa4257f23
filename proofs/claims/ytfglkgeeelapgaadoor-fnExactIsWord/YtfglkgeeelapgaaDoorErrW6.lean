/- Chapter 8: faultOf, DataOf and IsWord: the program's. -/
import Derived.Test.YtfglkgeeelapgaaDoorErrW5
import Derived.Test.YtfglkgeeelapgaaDoorErrIs
set_option linter.unusedSimpArgs false
set_option linter.unusedVariables false
namespace Go.Proofs.YtfglkgeeelapgaaDoor
open Go.RowKit G294

set_option maxHeartbeats 400000 in
theorem fault1_any (x : UInt8) (w : World) : Calls Tryd.prog 126 #[.int .u8 (x.toNat : Int)] w fun e w' => e = .returned (.bool ((x.toNat : Int) != 0)) ∧ w = w' := by
  obtain ⟨b, hb⟩ : ∃ b, ((x.toNat : Int) != 0) = b := ⟨_, rfl⟩
  rw [hb]
  go_enter Tryd.func126, Tryd.ntmps126
  go_wp2_with fail
  go_ret
  exact ⟨rfl, rfl⟩

set_option maxHeartbeats 1000000 in
theorem indexFunc_any (v : Value) (l : List UInt8) (w : World) (hv : Seen w v (bys l)) : Calls Tryd.prog 142 #[v, .func (.func 126) #[] #[]] w fun e w' => (∃ r : Int, e = .returned (.int .i64 r) ∧ decide (0 ≤ r) = !zeroL l) ∧ w = w' := by
  obtain ⟨A, c, rfl, hlc, hcm, hx⟩ := hv
  rw [bys_length] at hlc hx
  simp only [bys_length]
  unfold maxLen at hcm
  generalize hnn : l.length = n at *
  have HN := Lib.hid hnn
  clear hnn
  have eg := enters_of Tryd.func126 (by kernel_rfl) rfl
  go_enter Tryd.func142, Tryd.ntmps142
  go_wp2_with fail
  go_loop [8] (fun i => ∃ k : Nat, k ≤ n ∧ i = .int .i64 k ∧ Hid (∀ i, i < k → l.getD i 0 = 0)) (fun i => n - (intOf i).toNat)
  case atStart => exact ⟨0, Nat.zero_le _, rfl, fun i hi => by omega⟩
  case round =>
    obtain ⟨k, hk, rfl, HE⟩ := hrel
    by_cases hlt : k < n
    · obtain ⟨b, off, rfl, hbl, hcell⟩ := hx (by omega)
      have hkl : k < l.length := by rw [HN.out]; exact hlt
      have hcx : w.cell? ⟨b, off + k, none⟩ = some (.int .u8 ((l.getD k 0).toNat : Int)) := by
        have := hcell k _ (bys_get l k hkl)
        simpa [List.getD, hkl] using this
      have hki : (k : Int) < (n : Int) := by omega
      clear hcell hx
      have HCF := Lib.hid (fault1_any (l.getD k 0) w)
      by_cases hz : l.getD k 0 = 0
      · have hbb : (((l.getD k 0).toNat : Int) != 0) = false := by rw [hz]; rfl
        have HK : Hid (∀ i, i < k + 1 → l.getD i 0 = 0) := fun i hi => by
          rcases Nat.lt_or_ge i k with h | h
          · exact HE.out i h
          · rw [show i = k by omega]; exact hz
        rw [hbb] at HCF
        clear hz hbb
        generalize l.getD k 0 = x at *
        go_wp2_with fail
        refine HCF.out.mono ?_
        rintro e w' ⟨rfl, rfl⟩
        go_wp2_with fail
        go_round
        case rel => exact ⟨k + 1, by omega, by go_num, HK⟩
        case measure => simp [intOf]; omega
      · have hbb : (((l.getD k 0).toNat : Int) != 0) = true := by
          have : (l.getD k 0).toNat ≠ 0 := fun e => hz (UInt8.toNat_inj.1 e)
          rw [bne_iff_ne]; omega
        have HF : Hid (zeroL l = false) := zeroL_no hkl hz
        rw [hbb] at HCF
        clear hz hbb
        generalize l.getD k 0 = x at *
        go_wp2_with fail
        refine HCF.out.mono ?_
        rintro e w' ⟨rfl, rfl⟩
        go_wp2_with fail
        go_ret
        exact ⟨⟨_, rfl, by rw [HF.out]; simp⟩, rfl⟩
    · obtain rfl : k = n := by omega
      have hki : ¬ (k : Int) < (k : Int) := by omega
      have HF : Hid (zeroL l = true) := zeroL_yes fun i hi => HE.out i (by rw [HN.out] at hi; exact hi)
      go_wp2_with fail
      go_ret
      exact ⟨⟨_, rfl, by rw [HF.out]; rfl⟩, rfl⟩

set_option maxHeartbeats 1000000 in
theorem containsFunc_any (v : Value) (l : List UInt8) (w : World) (hv : Seen w v (bys l)) : Calls Tryd.prog 125 #[v, .func (.func 126) #[] #[]] w fun e w' => e = .returned (.bool (!zeroL l)) ∧ w = w' := by
  have HC := Lib.hid (indexFunc_any v l w hv)
  obtain ⟨A, c, rfl, _⟩ := hv
  rw [bys_length] at HC ⊢
  generalize hll : l.length = q at *
  generalize zeroL l = z at *
  clear hll
  go_enter Tryd.func125, Tryd.ntmps125
  go_wp2_with fail
  refine HC.out.mono ?_
  rintro e w' ⟨⟨r, rfl, hr⟩, rfl⟩
  go_wp2_with fail
  go_ret
  exact ⟨rfl, rfl⟩

/-- what faultOf hands back: the sentinel at a0, nil, or a new *wrongBytes that holds the syndromes -/
def RetFault (w : World) (l : List UInt8) (t : Int) (a0 : Addr) (e : Ending) (w' : World) : Prop :=
  TurnIn 0 0 w w' ∧ ((fitW l t = false ∧ e = .returned (.iface 182 (.pointer (some a0)))) ∨ (fitW l t = true ∧ isWR l t = true ∧ e = .returned .nilIface) ∨
    (fitW l t = true ∧ isWR l t = false ∧ ∃ B sv, e = .returned (.iface 127 (.pointer (some ⟨B, 0, none⟩))) ∧ w.heap.size ≤ B ∧ B < w'.heap.size ∧ w'.cell? ⟨B, 0, none⟩ = some sv ∧ OwnBytes 5 w' w.heap.size B sv (synL l (2 * t.toNat))))

set_option maxRecDepth 100000 in
set_option maxHeartbeats 2000000 in
theorem faultOf_own (v : Value) (l : List UInt8) (t : Int) (a0 : Addr) (w : World) (hv : Seen w v (bys l)) (ht : Tab w) (h0 : 2 < w.heap.size) (s0 : w.cell? ⟨1, 0, none⟩ = some (.iface 182 (.pointer (some a0)))) (l0 : 1 < w.heap.size) :
    Calls Tryd.prog 98 #[v, .int .i64 t] w (RetFault w l t a0) := by
  have HS := Lib.hid (syndromesOf_own v l t w hv ht h0)
  obtain ⟨A, c, rfl, _⟩ := hv
  rw [bys_length] at HS ⊢
  generalize hll : l.length = q at *
  clear hll
  by_cases hf : fitW l t = true
  · have HR : Hid (synR l t = synL l (2 * t.toNat)) := synR_yes hf
    have HF := Lib.hid hf
    have HI : Hid (isWR l t = zeroL (synL l (2 * t.toNat))) := by show _ = _; simp [isWR, hf]
    clear hf
    go_enter Tryd.func98, Tryd.ntmps98
    go_wp2_with fail
    refine HS.out.mono ?_
    rintro e w1 ⟨v1, rfl, o1, k1⟩
    rw [HF.out]
    rw [HR.out] at o1
    obtain ⟨Y, ny, cy, hyy⟩ := own_isSlice o1.1
    have HC := Lib.hid (containsFunc_any v1 _ w1 o1.seen)
    subst hyy
    have HO := Lib.hid o1
    have z1 := k1.size
    clear o1
    by_cases hz : zeroL (synL l (2 * t.toNat)) = true
    · rw [hz] at HC
      have HZ : Hid (isWR l t = true) := HI.out.trans hz
      clear hz
      go_wp2_with fail
      refine HC.out.mono ?_
      rintro e w' ⟨rfl, rfl⟩
      go_wp2_with fail
      go_ret
      exact ⟨k1, .inr (.inl ⟨HF.out, HZ.out, rfl⟩)⟩
    · have hz' : zeroL (synL l (2 * t.toNat)) = false := by simpa using hz
      rw [hz'] at HC
      have HZ : Hid (isWR l t = false) := HI.out.trans hz'
      have ta := turn_alloc w1 (.cells #[.slice Y ny cy] 129)
      have HTA := Lib.hid (turn_trans k1 ta (by omega))
      have HO2 := Lib.hid (HO.out.keep ta (by omega))
      clear hz hz' ta
      go_wp2_with fail
      refine HC.out.mono ?_
      rintro e w' ⟨rfl, rfl⟩
      go_wp2_with fail
      go_ret
      exact ⟨HTA.out, .inr (.inr ⟨HF.out, HZ.out, w1.heap.size, .slice Y ny cy, rfl, z1, by simp, by simp, HO2.out⟩)⟩
  · have HF : Hid (fitW l t = false) := by show _ = _; simpa using hf
    clear hf
    go_enter Tryd.func98, Tryd.ntmps98
    go_wp2_with fail
    refine HS.out.mono ?_
    rintro e w1 ⟨v1, rfl, o1, k1⟩
    rw [HF.out]
    obtain ⟨Y, ny, cy, hyy⟩ := own_isSlice o1.1
    subst hyy
    clear o1
    have s1 := (k1.to_below.cell (p := ⟨1, 0, none⟩) l0).trans s0
    go_wp2_with fail
    go_ret
    exact ⟨k1, .inl ⟨HF.out, rfl⟩⟩

set_option maxRecDepth 100000 in
set_option maxHeartbeats 2000000 in
theorem dataOf_own (v : Value) (l : List UInt8) (t : Int) (a0 : Addr) (w : World) (hv : Seen w v (bys l)) (ht : Tab w) (h0 : 2 < w.heap.size) (s0 : w.cell? ⟨1, 0, none⟩ = some (.iface 182 (.pointer (some a0)))) (l0 : 1 < w.heap.size) :
    Calls Tryd.prog 43 #[v, .int .i64 t] w (RetBytesOk 5 w (dataR l t) (isWR l t)) := by
  have HFA := Lib.hid (faultOf_own v l t a0 w hv ht h0 s0 l0)
  have hv0 := hv
  obtain ⟨A, c, rfl, hlc, hcm, _⟩ := hv
  rw [bys_length] at HFA hv0 hlc ⊢
  unfold maxLen at hcm
  have HV := Lib.hid hv0
  clear hv0
  by_cases hz : isWR l t = true
  · have hf := isWR_fit hz
    obtain ⟨m, rfl, h1, h4, h5, h6, _⟩ := fitW_m hf
    obtain ⟨n, hn⟩ : ∃ n, n = 2 * m := ⟨_, rfl⟩
    have hn8 : n ≤ 8 := by omega
    have hnl : n < l.length := by omega
    have HR : Hid (dataR l (m : Int) = l.drop n) := by show _ = _; unfold dataR; rw [if_pos hz, hn]; simp
    have HZ := Lib.hid hz
    have HF := Lib.hid hf
    have HCC : Hid (∀ W : World, Calls Tryd.prog 89 #[.int .i64 (m : Int)] W fun e w' => e = .returned (.int .i64 (n : Int)) ∧ W = w') := fun W => by rw [hn]; exact checkCount_any m W (by omega)
    obtain ⟨b, off, rfl, hsd⟩ := HV.out.dropB (n := n) hnl
    have HD := Lib.hid hsd
    have HDL : Hid ((l.drop n).length = l.length - n) := by show _ = _; simp
    clear hz hf hn hsd
    generalize hll : l.length = q at *
    clear hll
    obtain ⟨d, hd⟩ : ∃ d, d = q - n := ⟨_, rfl⟩
    have hd1 : 1 ≤ d := by omega
    have hd24 : d ≤ 24 := by omega
    have hdq : q - n = d := hd.symm
    have hni : (n : Int) ≤ (q : Int) := by omega
    have hni2 : (q : Int) ≤ (c : Int) := by omega
    rw [← hd] at HD HDL
    clear hd
    go_enter Tryd.func43, Tryd.ntmps43
    go_wp2_with fail
    refine HFA.out.mono ?_
    rintro e w1 ⟨k1, ⟨hff, _⟩ | ⟨_, _, rfl⟩ | ⟨_, hzz, _⟩⟩
    · rw [HF.out] at hff; cases hff
    · have z1 := k1.size
      have HD1 := Lib.hid (HD.out.touch k1)
      go_wp2_with fail
      refine (HCC.out _).mono ?_
      rintro e w' ⟨rfl, rfl⟩
      go_wp2_with fail
      refine (cloneB_own _ (l.drop n) _ HD1.out (by rw [HDL.out]; exact hd1) (by rw [HDL.out]; omega)).mono ?_
      rintro e w2 ⟨v2, rfl, o2, k2⟩
      have kk := turn_trans k1 k2 (by omega)
      have o2' := o2.wider (lo' := w.heap.size) (hi' := w2.heap.size) z1 (Nat.le_refl _) (Nat.le_refl _)
      go_wp2_with fail
      go_ret2
      exact ⟨v2, by rw [HZ.out]; rfl, by rw [HR.out]; exact o2', kk⟩
    · rw [HZ.out] at hzz; cases hzz
  · have HZ : Hid (isWR l t = false) := by show _ = _; simpa using hz
    have HR : Hid (dataR l t = []) := if_neg hz
    clear hz
    generalize hll : l.length = q at *
    clear hll
    go_enter Tryd.func43, Tryd.ntmps43
    go_wp2_with fail
    refine HFA.out.mono ?_
    rintro e w1 ⟨k1, ⟨_, rfl⟩ | ⟨_, hzz, _⟩ | ⟨_, _, B, sv, rfl, _, _, _, _⟩⟩
    · go_wp2_with fail
      go_ret2
      exact ⟨.slice none 0 0, by rw [HZ.out]; rfl, by rw [HR.out]; exact ⟨World.ownsRow_nil _ _ _ _, Nat.le_refl _, fun g h => by simp [Value.ownBlock] at h⟩, k1⟩
    · rw [HZ.out] at hzz; cases hzz
    · go_wp2_with fail
      go_ret2
      exact ⟨.slice none 0 0, by rw [HZ.out]; rfl, by rw [HR.out]; exact ⟨World.ownsRow_nil _ _ _ _, Nat.le_refl _, fun g h => by simp [Value.ownBlock] at h⟩, k1⟩

/-- the two sentinels -/
structure Sen (w : World) (a0 a1 : Addr) : Prop where
  s0 : w.cell? ⟨1, 0, none⟩ = some (.iface 182 (.pointer (some a0)))
  s1 : w.cell? ⟨0, 0, none⟩ = some (.iface 182 (.pointer (some a1)))
  l0 : 1 < w.heap.size
  l1 : 0 < w.heap.size
  ne : a0 ≠ a1
  r0 : ∃ c t, w.heap[a0.block]? = some (.cells c t (0, 0))
  r1 : ∃ c t, w.heap[a1.block]? = some (.cells c t (0, 0))

theorem Sen.below {w w' : World} {a0 a1 : Addr} (h : Sen w a0 a1) (hb : Below w.heap.size w w') : Sen w' a0 a1 := by
  obtain ⟨c0, t0, h0⟩ := h.r0
  obtain ⟨c1, t1, h1⟩ := h.r1
  have hs := hb.size
  exact ⟨(hb.cell (p := ⟨1, 0, none⟩) h.l0).trans h.s0, (hb.cell (p := ⟨0, 0, none⟩) h.l1).trans h.s1, Nat.lt_of_lt_of_le h.l0 hs, Nat.lt_of_lt_of_le h.l1 hs, h.ne,
    ⟨c0, t0, (hb.block _ (Array.getElem?_eq_some_iff.1 h0).1).trans h0⟩, ⟨c1, t1, (hb.block _ (Array.getElem?_eq_some_iff.1 h1).1).trans h1⟩⟩

set_option maxRecDepth 100000 in
set_option maxHeartbeats 2000000 in
theorem isWord_own (v : Value) (l : List UInt8) (t : Int) (a0 a1 : Addr) (w : World) (hv : Seen w v (bys l)) (ht : Tab w) (h0 : 2 < w.heap.size) (hs : Sen w a0 a1) :
    Calls Tryd.prog 41 #[v, .int .i64 t] w (RetBools w (isWR l t) (fitW l t)) := by
  have HFA := Lib.hid (faultOf_own v l t a0 w hv ht h0 hs.s0 hs.l0)
  have HSE := Lib.hid hs
  obtain ⟨A, c, rfl, _⟩ := hv
  rw [bys_length] at HFA ⊢
  clear hs
  generalize hll : l.length = q at *
  clear hll
  go_enter Tryd.func41, Tryd.ntmps41
  go_wp2_with fail
  refine HFA.out.mono ?_
  rintro e w1 ⟨k1, ⟨hff, rfl⟩ | ⟨hff, hzz, rfl⟩ | ⟨hff, hzz, B, sv, rfl, _, _, _, _⟩⟩
  · have hse := HSE.out.below k1.to_below
    have hs1 := hse.s1
    obtain ⟨c0, t0, hr0⟩ := hse.r0
    obtain ⟨c1, t1, hr1⟩ := hse.r1
    have HCI := Lib.hid (fun n => is_other a0 a1 c0 c1 t0 t1 (w1.drewN n) hse.ne hr0 hr1)
    have HZ : Hid (isWR l t = false) := by show _ = _; simp [isWR, hff]
    have HF := Lib.hid hff
    clear hff hse hr0 hr1
    go_wp2_with fail
    go_quiet ((go_at_call 99; exact quietly (HCI.out _)))
    go_wp2_with fail
    go_ret2
    exact ⟨by rw [HZ.out, HF.out]; rfl, turn_trans k1 ⟨rfl, rfl, rfl, Nat.le_refl _, fun _ _ _ => rfl⟩ (by omega : (0 ≤ 0 ∧ 0 ≤ 0) ∨ w.heap.size ≤ 0 ∨ 0 = 0)⟩
  · have HZ := Lib.hid hzz
    have HF := Lib.hid hff
    clear hff hzz
    go_wp2_with fail
    go_quiet (fail)
    go_wp2_with fail
    go_ret2
    exact ⟨by rw [HZ.out, HF.out]; rfl, turn_trans k1 ⟨rfl, rfl, rfl, Nat.le_refl _, fun _ _ _ => rfl⟩ (by omega : (0 ≤ 0 ∧ 0 ≤ 0) ∨ w.heap.size ≤ 0 ∨ 0 = 0)⟩
  · have hse := HSE.out.below k1.to_below
    have hs1 := hse.s1
    have HCI := Lib.hid (fun n => is_wrong ⟨B, 0, none⟩ a1 (w1.drewN n) hs1)
    have HZ := Lib.hid hzz
    have HF := Lib.hid hff
    clear hff hzz hse
    go_wp2_with fail
    go_quiet ((go_at_call 99; exact quietly (HCI.out _)))
    go_wp2_with fail
    go_ret2
    exact ⟨by rw [HZ.out, HF.out]; rfl, turn_trans k1 ⟨rfl, rfl, rfl, Nat.le_refl _, fun _ _ _ => rfl⟩ (by omega : (0 ≤ 0 ∧ 0 ≤ 0) ∨ w.heap.size ≤ 0 ∨ 0 = 0)⟩

end Go.Proofs.YtfglkgeeelapgaaDoor
