/- Joined texts: IntsWalks, PartMath, PartWalks, Elim2, Grids2, Solved, MatI2. -/
import Derived.Test.YtbopocpmodpfcaaDoorBd03
import Derived.Test.YtbopocpmodpfcaaDoorBd01
import Derived.Test.YtbopocpmodpfcaaDoorBd04
import Derived.Test.YtbopocpmodpfcaaDoorBd05
import Derived.Test.YtbopocpmodpfcaaDoorBd07
import Derived.Test.YtbopocpmodpfcaaDoorBd08
set_option linter.unusedSimpArgs false
set_option linter.unusedVariables false
/- Contracts of the laws' helpers on []int: a copy, equality, marks, marks held. -/
namespace Go.Proofs.YtbopocpmodpfcaaDoor
open Go.RowKit G294

theorem infoInt : (Tryd.prog.info? 3).map (fun i => (i.zero, i.size, i.bytes)) = some (some (.int .i64 0), 1, 8) := by kernel_rfl

theorem eq_atI {l m : List Int} {k : Nat} (hl : k < l.length) (hm : k < m.length) (h : l[k] ≠ m[k]) : (l == m) = false := by
  rw [beq_eq_false_iff_ne]
  intro e; subst e; exact h rfl

theorem eq_allI {l m : List Int} (hl : l.length = m.length) (h : ∀ i (h1 : i < l.length) (h2 : i < m.length), l[i] = m[i]) : (l == m) = true := by
  rw [beq_iff_eq]; exact List.ext_getElem hl h

set_option maxHeartbeats 400000 in
theorem toIntS_any (v : Value) (l : List Int) (w : World) (hv : Seen w v (ints l)) (hn : l.length ≤ 1048576) :
    Calls Tryd.prog 45 #[v] w (Made w 3 (ints l)) := by
  obtain ⟨i0, hi0, hz0, hz1, hz2⟩ := info_parts infoInt
  obtain ⟨A, c, rfl, hlc, hcm, hx⟩ := hv
  rw [ints_length] at hlc hx
  simp only [ints_length]
  unfold maxLen at hcm
  generalize hnn : l.length = n at *
  have HN := Lib.hid hnn
  clear hnn
  go_enter Tryd.func45, Tryd.ntmps45
  go_wp2_with (at_make; refine wpList_make_full _ rfl _ _ _ rfl w.heap.size _ i0 _ 1 Tryd.underlying47 hi0 hz0 hz1 _ _ _ _ n rfl rfl rfl rfl ?b2 ?b3 ?b4 ?_)
  case b2 => rw [hz2]; omega
  case b3 => unfold maxLen; omega
  case b4 => exact Nat.le_refl _
  intro w1 hown1 hg1
  have hb1 : Below w.heap.size w w1 := below_of_grown hg1 (Nat.le_refl _) (by simp)
  rw [toList_madeCells_one] at hown1
  clear hg1
  go_wp2_with fail
  go_loopw [4] (fun i wr => ∃ k : Nat, k ≤ n ∧ i = .int .i64 k ∧ wr.ownsRow w.heap.size 3 1 (.slice (some ⟨w.heap.size, 0, none⟩) n n) n ((ints l).take k ++ List.replicate (n - k) (.int .i64 0)) ∧ Below w.heap.size w wr)
    (fun i _ => n - (intOf i).toNat)
  case atStart => exact ⟨0, Nat.zero_le _, rfl, by simpa using hown1, hb1⟩
  case round =>
    obtain ⟨k, hk, rfl, hown, hb⟩ := hrel
    clear hown1 hb1
    by_cases hlt : k < n
    · obtain ⟨b, off, rfl, hbl, hcell⟩ := hx (by omega)
      have hkl : k < l.length := by rw [HN.out]; exact hlt
      have hcx : wr.cell? ⟨b, off + k, none⟩ = some (.int .i64 (l[k])) := (hb.cell (p := ⟨b, off + k, none⟩) hbl).trans (hcell k _ (ints_get l k hkl))
      have hco : wr.cell? ⟨w.heap.size, k, none⟩ = some (.int .i64 0) := by
        have ht : ((ints l).take k).length = k := by simp; omega
        rw [hown.cellAt k (by omega), List.getElem?_append_right (by omega), ht, Nat.sub_self, List.getElem?_replicate, if_pos (by omega)]
      have hfr := hown.frozenAt k
      have hst := hown.stored k (.int .i64 (l[k]))
      rw [take_set_next (ints l) _ k _ (ints_get l k hkl) (by simp [HN.out]; omega)] at hst
      clear hcell hx
      go_wp2_with fail
      go_roundw
      case rel => exact ⟨k + 1, by omega, by go_num, by simpa [Nat.sub_sub] using hst.1, hb.setCell (Nat.le_refl _) _⟩
      case measure => simp [intOf]; omega
    · obtain rfl : k = n := by omega
      go_wp2_with fail
      go_ret
      refine ⟨_, rfl, ?_, hb⟩
      rw [List.take_of_length_le (by simp [HN.out]), Nat.sub_self] at hown
      simpa [HN.out] using hown

set_option maxHeartbeats 400000 in
theorem eqIntS_any (v u : Value) (l m : List Int) (w : World) (hv : Seen w v (ints l)) (hu : Seen w u (ints m)) :
    Calls Tryd.prog 46 #[v, u] w (Tells w (l == m)) := by
  obtain ⟨A, c, rfl, hlc, hcm, hx⟩ := hv
  obtain ⟨A', c', rfl, hlc', hcm', hx'⟩ := hu
  rw [ints_length] at hlc hx hlc' hx'
  simp only [ints_length]
  unfold maxLen at hcm hcm'
  by_cases hlen : l.length = m.length
  · generalize hnn : l.length = n at *
    generalize hmm : m.length = n' at *
    obtain rfl : n = n' := by omega
    have HN := Lib.hid hnn
    have HM := Lib.hid hmm
    clear hnn hmm
    have hbn : ((n : Int) != (n : Int)) = false := by simp
    go_enter Tryd.func46, Tryd.ntmps46
    go_wp2_with fail
    go_loopw [5] (fun i wr => ∃ k : Nat, k ≤ n ∧ i = .int .i64 k ∧ Hid (∀ i (h1 : i < l.length) (h2 : i < m.length), i < k → l[i] = m[i]) ∧ Below w.heap.size w wr)
      (fun i _ => n - (intOf i).toNat)
    case atStart => exact ⟨0, Nat.zero_le _, rfl, (fun _ _ _ h => by omega), Below.refl _ _⟩
    case round =>
      obtain ⟨k, hk, rfl, HE, hb⟩ := hrel
      by_cases hlt : k < n
      · obtain ⟨b, off, rfl, hbl, hcell⟩ := hx (by omega)
        obtain ⟨b', off', rfl, hbl', hcell'⟩ := hx' (by omega)
        have hkl : k < l.length := by rw [HN.out]; exact hlt
        have hkm : k < m.length := by rw [HM.out]; exact hlt
        have hcx : wr.cell? ⟨b, off + k, none⟩ = some (.int .i64 (l[k])) := (hb.cell (p := ⟨b, off + k, none⟩) hbl).trans (hcell k _ (ints_get l k hkl))
        have hcy : wr.cell? ⟨b', off' + k, none⟩ = some (.int .i64 (m[k])) := (hb.cell (p := ⟨b', off' + k, none⟩) hbl').trans (hcell' k _ (ints_get m k hkm))
        clear hcell hcell' hx hx'
        have hki : (k : Int) < (n : Int) := by omega
        by_cases hne : l[k] = m[k]
        · have hbb : (l[k] != m[k]) = false := by simp [hne]
          have HK : Hid (∀ i (h1 : i < l.length) (h2 : i < m.length), i < k + 1 → l[i] = m[i]) := fun i h1 h2 h => by
            rcases Nat.lt_or_ge i k with h' | h'
            · exact HE.out i h1 h2 h'
            · obtain rfl : i = k := by omega
              exact hne
          clear hne
          go_wp2_with fail
          go_quiet (fail)
          go_wp2_with fail
          go_roundw
          case rel => exact ⟨k + 1, by omega, by go_num, HK, below_drewN hb _⟩
          case measure => simp [intOf]; omega
        · have hbb : (l[k] != m[k]) = true := by simpa using hne
          have HF := Lib.hid (eq_atI hkl hkm hne)
          clear hne
          go_wp2_with fail
          go_quiet (fail)
          go_wp2_with fail
          go_ret
          exact ⟨by rw [HF.out]; rfl, below_drewN hb _⟩
      · obtain rfl : k = n := by omega
        have HF := Lib.hid (eq_allI (l := l) (m := m) (by rw [HN.out, HM.out]) (fun i h1 h2 => HE.out i h1 h2 (by rw [HN.out] at h1; exact h1)))
        go_wp2_with fail
        go_ret
        exact ⟨by rw [HF.out]; rfl, hb⟩
  · have hbn : ((l.length : Int) != (m.length : Int)) = true := by simp; omega
    have HF : Hid ((l == m) = false) := by
      show (l == m) = false
      rw [beq_eq_false_iff_ne]; intro e; exact hlen (by rw [e])
    clear hlen
    generalize l.length = n at *
    generalize m.length = n' at *
    go_enter Tryd.func46, Tryd.ntmps46
    go_wp2_with fail
    go_ret
    exact ⟨by rw [HF.out]; rfl, Below.refl _ _⟩

set_option maxHeartbeats 400000 in
theorem markIntS_any (v : Value) (l : List Int) (k0 base : Nat) (w : World) (hv : w.ownsRow base 3 1 v l.length (ints l)) (hk0 : k0 + l.length ≤ 1000000000000) :
    Calls Tryd.prog 47 #[v, .int .i64 k0] w (Marked w 3 base v (ints (marksI k0 l.length)) ((k0 + l.length : Nat) : Int)) := by
  have hown0 := hv
  rcases hv.2 with ⟨rfl, hn⟩ | ⟨g, cap, cur, rfl, hbg, hg, hnc, hcm, hcs, ht⟩
  · have : l = [] := List.eq_nil_of_length_eq_zero hn
    subst this
    have HE := Lib.hid hown0
    clear hown0 hv hn
    go_enter Tryd.func47, Tryd.ntmps47
    go_wp2_with fail
    refine wp_loop_once ?_
    go_wp2_with fail
    go_ret
    exact ⟨rfl, HE.out, World.grownBy.refl _ _⟩
  · clear hv hg ht hcs
    unfold maxLen at hcm
    generalize hnn : l.length = n at *
    have HN := Lib.hid hnn
    have hbl : (ints l).length = n := by simp [hnn]
    have HB := Lib.hid hbl
    clear hnn hbl
    go_enter Tryd.func47, Tryd.ntmps47
    go_wp2_with fail
    go_loopw [1, 5] (fun q i wr => ∃ k : Nat, k ≤ n ∧ i = .int .i64 k ∧ q = .int .i64 ((k0 : Int) + (k : Int)) ∧ wr.ownsRow base 3 1 (.slice (some ⟨g, 0, none⟩) n cap) n ((ints (marksI k0 n)).take k ++ (ints l).drop k) ∧ w.grownBy wr (some g))
      (fun _ i _ => n - (intOf i).toNat)
    case atStart => exact ⟨0, Nat.zero_le _, rfl, by simp, by simpa using hown0, World.grownBy.refl _ _⟩
    case round =>
      obtain ⟨k, hk, rfl, rfl, hown, hgr⟩ := hrel
      clear hown0
      by_cases hlt : k < n
      · have hco : wr.cell? ⟨g, k, none⟩ = some (.int .i64 (l[k]'(by rw [HN.out]; exact hlt))) := by
          have htk : ((ints (marksI k0 n)).take k).length = k := by simp; omega
          rw [hown.cellAt k (by omega), List.getElem?_append_right (by omega), htk, Nat.sub_self, List.getElem?_drop, Nat.add_zero, ints_get]
        have hfr := hown.frozenAt k
        have hst := hown.stored k (.int .i64 ((k0 + k : Nat) : Int))
        rw [take_set_over _ _ k _ (marksI_get k0 n k hlt) (by simp [HN.out])] at hst
        have hst1 := hst.1
        have hst2 : w.grownBy _ (some g) := hgr.trans hst.2
        have HC : Hid (((k0 + k : Nat) : Int) = (k0 : Int) + (k : Int)) := Int.natCast_add k0 k
        rw [HC.out] at hst1 hst2
        clear hst
        go_wp2_with fail
        go_roundw
        case rel => exact ⟨k + 1, by omega, by go_num, by go_num, hst1, hst2⟩
        case measure => simp [intOf]; omega
      · obtain rfl : k = n := by omega
        go_wp2_with fail
        go_ret
        refine ⟨?_, ?_, hgr⟩
        · exact congrArg (fun z => Ending.returned (.int .i64 z)) (by simp)
        · rw [List.take_of_length_le (by simp), List.drop_of_length_le (by rw [HB.out]; exact Nat.le_refl _), List.append_nil] at hown
          simpa using hown

theorem toIntS_own (v : Value) (l : List Int) (w : World) (hv : Seen w v (ints l)) (hn : l.length ≤ 1048576) : Calls Tryd.prog 45 #[v] w (RetInts 3 w l) :=
  (toIntS_any v l w hv hn).mono fun e w' ⟨v', he, ho, hb⟩ => ⟨v', he, OwnInts.of_made (by simpa using ho), TurnIn.of_below hb⟩

theorem eqIntS_same (v u : Value) (l : List Int) (w : World) (hv : Seen w v (ints l)) (hu : Seen w u (ints l)) : Calls Tryd.prog 46 #[v, u] w (RetBool w true) := by
  have := eqIntS_any v u l l w hv hu
  rw [beq_self_eq_true] at this
  exact this.mono fun e w' ⟨he, hb⟩ => ⟨he, TurnIn.of_below hb⟩

theorem markIntS_own (v : Value) (l : List Int) (k lo hi : Nat) (w : World) (hv : OwnInts 3 w lo hi v l) (hk : k + l.length ≤ 1000000000000) :
    Calls Tryd.prog 47 #[v, .int .i64 k] w (RetMarkI 3 w lo hi v k l.length) :=
  (markIntS_any v l k lo w hv.1 hk).mono fun e w' ⟨he, ho, hg⟩ => ⟨he, ⟨by simpa using ho, Nat.le_trans hv.2.1 hg.size, hv.2.2⟩, TurnIn.of_grown hg fun g h => ⟨(hv.1.lt g h).1, hv.2.2 g h⟩⟩

end Go.Proofs.YtbopocpmodpfcaaDoor

/- Increasing lists of indexes, and parts of matrices: plain functions. -/
namespace G294
def okAt (l : List Int) (size : Nat) (i : Nat) : Prop := 0 ≤ l.getD i 0 ∧ l.getD i 0 < size ∧ (0 < i → l.getD (i - 1) 0 < l.getD i 0)
instance (l : List Int) (size i : Nat) : Decidable (okAt l size i) := by unfold okAt; infer_instance
def someOk (l : List Int) (size : Nat) : Bool := decide (∀ i, i < l.length → okAt l size i)
def chosen (l : List Int) (size : Nat) : Bool := someOk l size && decide (0 < l.length)
theorem someOk_iff (l : List Int) (size : Nat) : someOk l size = true ↔ ∀ i, i < l.length → okAt l size i := by simp only [someOk, decide_eq_true_eq]
theorem someOk_no {l : List Int} {size k : Nat} (hk : k < l.length) (h : ¬ okAt l size k) : someOk l size = false := by
  rw [Bool.eq_false_iff]; intro e; exact h ((someOk_iff l size).1 e k hk)
def ptOk (m : Mat) (l c : List Int) : Bool := goodM m && chosen l m.length && chosen c (wid m)
def ptF (m : Mat) (l c : List Int) : Ents := fun i j => ent m (l.getD i 0).toNat (c.getD j 0).toNat
def ptR (m : Mat) (l c : List Int) : Mat := if ptOk m l c = true then mkM l.length c.length (ptF m l c) else []
/-- an increasing list of indexes below size is no longer than size -/
theorem okAt_lo (l : List Int) (size : Nat) (h : ∀ i, i < l.length → okAt l size i) : ∀ i, i < l.length → (i : Int) ≤ l.getD i 0 := by
  intro i
  induction i with
  | zero => intro hi; exact (h 0 hi).1
  | succ i ih =>
    intro hi
    have h1 := ih (by omega)
    have h2 := (h (i + 1) hi).2.2 (by omega)
    simp only [Nat.add_sub_cancel] at h2
    omega
theorem some_len {l : List Int} {size : Nat} (h : someOk l size = true) : l.length ≤ size := by
  have h' := (someOk_iff l size).1 h
  rcases Nat.eq_zero_or_pos l.length with h0 | h0
  · omega
  · have h1 := okAt_lo l size h' (l.length - 1) (by omega)
    have h2 := (h' (l.length - 1) (by omega)).2.1
    omega
end G294

/- PartOf, the program's. -/
namespace Go.Proofs.YtbopocpmodpfcaaDoor
open Go.RowKit G294

set_option maxRecDepth 100000 in
set_option maxHeartbeats 1000000 in
theorem goodChoice_any (v : Value) (l : List Int) (size : Nat) (w : World) (hv : Seen w v (ints l)) (hsz : size ≤ 1000) :
    Calls Tryd.prog 105 #[v, .int .i64 size] w fun e w' => e = .returned (.bool (chosen l size)) ∧ w = w' := by
  obtain ⟨A, c, rfl, hlc, hcm, hx⟩ := hv
  rw [ints_length] at hlc hx
  simp only [ints_length]
  unfold maxLen at hcm
  generalize hnn : l.length = n at *
  have HN := Lib.hid hnn
  have HX := Lib.hid hx
  clear hnn hx
  go_enter Tryd.func105, Tryd.ntmps105
  go_wp2_with fail
  go_loop [5, 10] (fun q i => ∃ (k : Nat) (z : Int), k ≤ n ∧ i = .int .i64 k ∧ q = .int .i64 z ∧ Hid (z = if k = 0 then -1 else l.getD (k - 1) 0) ∧ Hid (∀ i, i < k → okAt l size i)) (fun _ i => n - (intOf i).toNat)
  case atStart => exact ⟨0, -1, Nat.zero_le _, rfl, rfl, rfl, fun i h => by omega⟩
  case round =>
    obtain ⟨k, z, hk, rfl, rfl, HZ, HK⟩ := hrel
    by_cases hlt : k < n
    · have hki : (k : Int) < (n : Int) := by omega
      have hkl : k < l.length := by rw [HN.out]; exact hlt
      obtain ⟨b, off, rfl, hbl, hcell⟩ := HX.out (by omega)
      have hcx := hcell k _ (ints_get l k hkl)
      obtain ⟨x, hxx⟩ : ∃ x, x = l[k] := ⟨_, rfl⟩
      rw [← hxx] at hcx
      have HXX : Hid (l.getD k 0 = x) := by show l.getD k 0 = x; rw [hxx]; simp [List.getD, hkl]
      clear hcell hxx
      by_cases h1 : x ≤ z
      · have hd : decide (x ≤ z) = true := by simpa using h1
        have HF : Hid (chosen l size = false) := by
          show chosen l size = false
          unfold chosen
          rw [someOk_no hkl (fun ho => by
            have hz := HZ.out
            have e := HXX.out
            obtain ⟨o1, o2, o3⟩ := ho
            by_cases hk0 : k = 0
            · rw [if_pos hk0] at hz; omega
            · rw [if_neg hk0] at hz
              have := o3 (by omega)
              omega)]
          rfl
        go_wp2_with fail
        go_ret
        exact ⟨by rw [HF.out]; rfl, rfl⟩
      · have hd : decide (x ≤ z) = false := by simpa using h1
        by_cases h2 : (size : Int) ≤ x
        · have hd2 : decide ((size : Int) ≤ x) = true := by simpa using h2
          have HF : Hid (chosen l size = false) := by
            show chosen l size = false
            unfold chosen
            rw [someOk_no hkl (fun ho => by
              have e := HXX.out
              obtain ⟨o1, o2, o3⟩ := ho
              omega)]
            rfl
          go_wp2_with fail
          go_ret
          exact ⟨by rw [HF.out]; rfl, rfl⟩
        · have hd2 : decide ((size : Int) ≤ x) = false := by simpa using h2
          have HZ2 : Hid (x = if k + 1 = 0 then -1 else l.getD (k + 1 - 1) 0) := by
            show x = _
            rw [if_neg (by omega), Nat.add_sub_cancel, HXX.out]
          have HK2 : Hid (∀ i, i < k + 1 → okAt l size i) := fun i hi => by
            by_cases e : i = k
            · subst e
              have hz := HZ.out
              have e := HXX.out
              refine ⟨?_, by omega, fun hp => ?_⟩
              · by_cases hk0 : i = 0
                · rw [if_pos hk0] at hz; omega
                · rw [if_neg hk0] at hz
                  have := (HK.out (i - 1) (by omega)).1
                  omega
              · rw [if_neg (by omega)] at hz; omega
            · exact HK.out i (by omega)
          go_wp2_with fail
          go_round
          case rel => exact ⟨k + 1, x, by omega, by go_num, rfl, HZ2, HK2⟩
          case measure => simp [intOf]; omega
    · obtain rfl : k = n := by omega
      have hki : ¬ (k : Int) < (k : Int) := by omega
      have HF : Hid (chosen l size = decide (0 < k)) := by
        show chosen l size = _
        unfold chosen
        rw [(someOk_iff l size).2 (fun i hi => HK.out i (by rw [← HN.out]; exact hi)), HN.out]; rfl
      go_wp2_with fail
      go_ret
      exact ⟨by rw [HF.out]; simp, rfl⟩

end Go.Proofs.YtbopocpmodpfcaaDoor

/- eliminate: the rank and the reduced rows. -/
namespace G294
theorem swF_rows {r c a p : Nat} (E : Ents) (ha : a < r) (hp : p < r) : ∀ i, i < r → (mkM r c (swF a p E)).getD i [] = (mkM r c E).getD (sw a p i) [] := by
  intro i hi
  rw [mkM_getD _ _ _ _ hi, mkM_getD _ _ _ _ (sw_lt ha hp hi)]; rfl
theorem op_eq (E : Ents) (a k p : Nat) (i j : Nat) : clF a (fun i => scF a (ginv (E p k)) (swF a p E) i k) (scF a (ginv (E p k)) (swF a p E)) i j = opF (G294.opAt E a k p) E i j := by
  unfold opF G294.opAt clF
  by_cases h : i = a
  · simp [h]
  · simp [h, scF]
end G294
namespace Go.Proofs.YtbopocpmodpfcaaDoor
open Go.RowKit G294

def RetElim (E EE : TypeId) (w : World) (lo hi : Nat) (v : Value) (L : Mat) (n : Nat) (e : Ending) (w' : World) : Prop := ∃ vs, e = .returned (.int .i64 n) ∧ OwnM E EE w' lo hi v L vs ∧ TurnIn lo hi w w'

set_option maxRecDepth 100000 in
set_option maxHeartbeats 4000000 in
theorem eliminate_any (r c n lo hi : Nat) (F : Ents) (v : Value) (vs0 : List Value) (w : World) (hM : OwnM 128 142 w lo hi v (mkM r c F) vs0) (hr1 : 1 ≤ r) (hn : n ≤ c) (hr : r ≤ 1000) (hc : c ≤ 1000) (ht : Tab w) (h0 : 0 < lo) :
    Calls Tryd.prog 129 #[v, .int .i64 n] w (RetElim 128 142 w lo hi v (mkM r c (est F r n).1) (est F r n).2) := by
  obtain ⟨g, cp, rfl, hg1, hg2, hg3, hg4⟩ := hM.sliceF (by omega)
  have HM0 := Lib.hid hM
  have HT := Lib.hid ht
  have htop := hM.top
  have hm1 := methInverse
  unfold maxLen at hg4
  clear hM ht
  go_enter Tryd.func129, Tryd.ntmps129
  go_wp2_with fail
  go_loopw [5, 10] (fun q i wr => ∃ (k a : Nat) (E : Ents) (vs : List Value), k ≤ n ∧ a ≤ r ∧ i = .int .i64 k ∧ q = .int .i64 a ∧ Hid (est F r k = (E, a)) ∧ Hid (OwnM 128 142 wr lo hi (.slice (some ⟨g, 0, none⟩) r cp) (mkM r c E) vs) ∧ Hid (TurnIn lo hi w wr)) (fun _ i _ => n - (intOf i).toNat)
  case atStart => exact ⟨0, 0, F, vs0, Nat.zero_le _, Nat.zero_le _, rfl, rfl, rfl, HM0, Lib.hid ⟨rfl, rfl, rfl, Nat.le_refl _, fun _ _ _ => rfl⟩⟩
  case round =>
    obtain ⟨k, a, E, vs, hk, har, rfl, rfl, HE, HM, HK⟩ := hrel
    by_cases hlt : k < n
    · have hki : (k : Int) < (n : Int) := by omega
      have hseen := Lib.hid HM.out.seen
      have htr : Tab wr := fun i hi => (World.cell?_of_block (HK.out.block 0 (by omega) (by omega))).trans (HT.out i hi)
      have HTR := Lib.hid htr
      clear htr
      go_wp2_with fail
      refine (pivotBelow_any r c a k E _ _ hseen.out hr1 hr hc har (by omega)).mono ?_
      rintro e w' ⟨rfl, rfl⟩
      rcases piv_cases E r a k with ⟨hp, _⟩ | ⟨p, hp, hap, hpr, hne, _⟩
      · rw [hp]
        have HE2 : Hid (est F r (k + 1) = (E, a)) := by
          show est F r (k + 1) = (E, a)
          rw [est_none (by rw [HE.out]; exact hp)]; exact HE.out
        clear hp
        unfold pivV
        go_wp2_with fail
        go_roundw
        case rel => exact ⟨k + 1, a, E, vs, by omega, har, by go_num, rfl, HE2, HM, HK⟩
        case measure => simp [intOf]; omega
      · rw [hp]
        have HE2 : Hid (est F r (k + 1) = (opF (G294.opAt E a k p) E, a + 1)) := by
          show est F r (k + 1) = _
          rw [est_some (p := p) (by rw [HE.out]; exact hp), HE.out]
        have har' : a < r := by omega
        obtain ⟨ba, ca, hua, _, _, _, _, _, _, _⟩ := HM.out.rowF a har' (by omega)
        obtain ⟨bp, cpp, hup, _, _, _, _, _, _, _⟩ := HM.out.rowF p hpr (by omega)
        have hca := HM.out.cellAt hua
        have hcp := HM.out.cellAt hup
        have hfa := HM.out.frozenAt a
        have hfp := HM.out.frozenAt p
        have hsw := (HM.out.swap (p := a) (q := p) (by simp) hua hup (L' := mkM r c (swF a p E)) (by simp) (fun i hi => swF_rows E har' hpr i (by simpa using hi)))
        have hrow : wr.ownsRow lo 142 1 (.slice (some ⟨g, 0, none⟩) r cp) r vs := by simpa using HM.out.row
        have hst := (hrow.stored a (.slice (some ⟨bp, 0, none⟩) c cpp)).1
        obtain ⟨z, hz⟩ : ∃ z, (wr.setCell ⟨g, a, none⟩ (.slice (some ⟨bp, 0, none⟩) c cpp)).cell? ⟨g, p, none⟩ = some z := by
          rw [hst.cellAt p (by omega)]
          exact ⟨_, List.getElem?_eq_getElem (by have := hst.1; omega)⟩
        have HSW := Lib.hid hsw
        have ha0 : (0 : Int) ≤ (a : Int) := Int.natCast_nonneg _
        have hai : (a : Int) < (r : Int) := by omega
        have hp0 : (0 : Int) ≤ (p : Int) := Int.natCast_nonneg _
        have hpi : (p : Int) < (r : Int) := by omega
        clear hp hne hsw hrow hst
        unfold pivV
        go_wp2_with fail
        go_region
        have HSW5 := Lib.hid (HSW.out.drewN 1)
        have hK5 : TurnIn lo hi w ((wr.setCell ⟨g, a, none⟩ (.slice (some ⟨bp, 0, none⟩) c cpp)).setCell ⟨g, p, none⟩ (.slice (some ⟨ba, 0, none⟩) c ca)).drew := by
          have t := turn_trans (turn_trans HK.out (turn_setCell wr g a (.slice (some ⟨bp, 0, none⟩) c cpp)) (by omega)) (turn_setCell _ g p (.slice (some ⟨ba, 0, none⟩) c ca)) (by omega)
          exact ⟨t.os, t.tape, t.output, t.size, t.block⟩
        change Hid (OwnM 128 142 ((wr.setCell ⟨g, a, none⟩ (.slice (some ⟨bp, 0, none⟩) c cpp)).setCell ⟨g, p, none⟩ (.slice (some ⟨ba, 0, none⟩) c ca)).drew lo hi (.slice (some ⟨g, 0, none⟩) r cp) (mkM r c (swF a p E)) ((vs.set a (.slice (some ⟨bp, 0, none⟩) c cpp)).set p (.slice (some ⟨ba, 0, none⟩) c ca))) at HSW5
        generalize ((wr.setCell ⟨g, a, none⟩ (.slice (some ⟨bp, 0, none⟩) c cpp)).setCell ⟨g, p, none⟩ (.slice (some ⟨ba, 0, none⟩) c ca)).drew = w5 at *
        generalize (vs.set a (.slice (some ⟨bp, 0, none⟩) c cpp)).set p (.slice (some ⟨ba, 0, none⟩) c ca) = vs5 at *
        have HK5 := Lib.hid hK5
        obtain ⟨b5, c5, hu5, _, _, _, _, e5, _, hcell5⟩ := HSW5.out.rowF a har' (by omega)
        have hc5 := HSW5.out.cellAt hu5
        have hx5 := hcell5 k (by omega)
        have ee : swF a p E a k = E p k := by simp [swF, sw]
        rw [ee] at hx5
        have HU5 := Lib.hid hu5
        have htr5 : Tab w5 := fun i hi => (World.cell?_of_block (HK5.out.block 0 (by omega) (by omega))).trans (HT.out i hi)
        have htd5 : Tab w5.drew := htr5
        have HTR5 := Lib.hid htd5
        have hkc : (k : Int) < (c : Int) := by omega
        have hk0 : (0 : Int) ≤ (k : Int) := Int.natCast_nonneg _
        unfold maxLen at e5
        clear hK5 hcell5 hu5 ee htr5 htd5 hca hcp hfa hfp hz hua hup HSW
        go_wp2_with fail
        refine wp_region_still_tail 13 (by kernel_rfl) (by kernel_rfl) ?_
        simp only [List.take_succ_cons, List.take_zero, List.drop_succ_cons, List.drop_zero]
        repeat (first | still_step | still_call (stilly (fbInverse_any (E p k) _ HTR5.out)))
        refine wpStill_nil ?_
        go_wp2_with fail
        refine (scaleRow_any r c a lo hi (swF a p E) (ginv (E p k)) _ _ vs5 w5.drew (HSW5.out.drewN 1) har' HU5.out (by omega) hc HTR5.out h0).mono ?_
        rintro e w6 ⟨rfl, hM6, hK6⟩
        have hK6' : TurnIn lo hi w w6 := turn_trans HK5.out (⟨hK6.os, hK6.tape, hK6.output, hK6.size, hK6.block⟩ : TurnIn lo hi w5 w6) (by omega)
        have HM6 := Lib.hid hM6
        have HK6 := Lib.hid hK6'
        have htr6 : Tab w6 := fun i hi => (World.cell?_of_block (HK6.out.block 0 (by omega) (by omega))).trans (HT.out i hi)
        have HTR6 := Lib.hid htr6
        clear hM6 hK6 hK6' htr6 hc5 hx5
        go_wp2_with fail
        refine (clearColumn_any r c a k lo hi (scF a (ginv (E p k)) (swF a p E)) _ vs5 w6 HM6.out har' (by omega) hr hc HTR6.out h0).mono ?_
        rintro e w7 ⟨rfl, hM7, hK7⟩
        have HM7 := Lib.hid (hM7.congr (L' := mkM r c (opF (G294.opAt E a k p) E)) (mkM_congr fun i j _ _ => op_eq E a k p i j))
        have HK7 := Lib.hid (turn_trans HK6.out hK7 (by omega))
        clear hM7 hK7
        go_wp2_with fail
        go_roundw
        case rel => exact ⟨k + 1, a + 1, _, vs5, by omega, by omega, by go_num, by go_num, HE2, HM7, HK7⟩
        case measure => simp [intOf]; omega
    · obtain rfl : k = n := by omega
      have hki : ¬ (k : Int) < (k : Int) := by omega
      go_wp2_with fail
      go_ret
      exact ⟨vs, by rw [HE.out]; rfl, by rw [HE.out]; exact HM.out, HK.out⟩
end Go.Proofs.YtbopocpmodpfcaaDoor

/- sideBySide, multiplied, solved, fieldGrid, matrixOf. -/
namespace Go.Proofs.YtbopocpmodpfcaaDoor
open Go.RowKit G294

set_option maxRecDepth 100000 in
set_option maxHeartbeats 1000000 in
theorem sideAt (r n c Bw Bl Br : Nat) (F G : Ents) (v u : Value) (w : World) (hBw : Bw < w.heap.size) (hBl : Bl < w.heap.size) (hBr : Br < w.heap.size) (hn : n ≤ 1000) (hc : c ≤ 1000)
    (hw : w.cell? ⟨Bw, 0, none⟩ = some (.int .i64 n)) (hv : w.cell? ⟨Bl, 0, none⟩ = some v) (hu : w.cell? ⟨Br, 0, none⟩ = some u) (hs : SeenM w v (mkM r n F)) (ht : SeenM w u (mkM r c G)) :
    GivesAt Tryd.prog 137 #[.pointer (some ⟨Bw, 0, none⟩), .pointer (some ⟨Bl, 0, none⟩), .pointer (some ⟨Br, 0, none⟩)] r (n + c) (hcF n F G) w := by
  intro W i j hb hi hj
  have hw' := (hb.cell (p := ⟨Bw, 0, none⟩) hBw).trans hw
  have hv' := (hb.cell (p := ⟨Bl, 0, none⟩) hBl).trans hv
  have hu' := (hb.cell (p := ⟨Br, 0, none⟩) hBr).trans hu
  by_cases hjn : j < n
  · obtain ⟨bb, off, cp, b', off', c', rfl, hl1, h1, h2, h3, hl2, h4⟩ := (hs.below hb).cellF i j hi hjn
    have HF : Hid (hcF n F G i j = F i j) := if_pos hjn
    unfold maxLen at hl1 hl2
    have hi' : (i : Int) < (r : Int) := by omega
    have hj' : (j : Int) < (n : Int) := by omega
    clear hw hv hu hs ht hu'
    go_enter Tryd.func137, Tryd.ntmps137
    go_wp2_with fail
    go_ret
    exact ⟨by rw [HF.out]; rfl, 0, rfl⟩
  · obtain ⟨d, rfl⟩ : ∃ d, j = n + d := ⟨j - n, by omega⟩
    obtain ⟨bb, off, cp, b', off', c', rfl, hl1, h1, h2, h3, hl2, h4⟩ := (ht.below hb).cellF i d hi (by omega)
    have HF : Hid (hcF n F G i (n + d) = G i d) := by show hcF n F G i (n + d) = G i d; unfold hcF; rw [if_neg (by omega)]; congr 1; omega
    unfold maxLen at hl1 hl2
    have hi' : (i : Int) < (r : Int) := by omega
    have hi0 : (0 : Int) ≤ (i : Int) := Int.natCast_nonneg _
    have hd0 : (0 : Int) ≤ (d : Int) := Int.natCast_nonneg _
    have hd' : (d : Int) < (c : Int) := by omega
    obtain ⟨x, hx⟩ : ∃ x, x = n + d := ⟨_, rfl⟩
    rw [← hx] at HF hjn ⊢
    have hxx : IntKind.i64.wrap ((x : Int) - (n : Int)) = (d : Int) := by rw [IntWalk.i64_in _ (by omega)]; omega
    have hj' : ¬ (x : Int) < (n : Int) := by omega
    clear hw hv hu hs ht hv' hx hjn
    go_enter Tryd.func137, Tryd.ntmps137
    go_wp2_with fail
    go_quiet (fail)
    go_wp2_with fail
    go_ret
    exact ⟨by rw [HF.out]; rfl, _, rfl⟩

set_option maxRecDepth 100000 in
set_option maxHeartbeats 1000000 in
theorem solvedAt (r n c Bb Bn : Nat) (F : Ents) (v : Value) (w : World) (hBb : Bb < w.heap.size) (hBn : Bn < w.heap.size) (hn : n ≤ 1000) (hc : c ≤ 1000)
    (hv : w.cell? ⟨Bb, 0, none⟩ = some v) (hw : w.cell? ⟨Bn, 0, none⟩ = some (.int .i64 n)) (hs : SeenM w v (mkM r (n + c) F)) :
    GivesAt Tryd.prog 131 #[.pointer (some ⟨Bb, 0, none⟩), .pointer (some ⟨Bn, 0, none⟩)] r c (fun i j => F i (n + j)) w := by
  intro W i j hb hi hj
  have hw' := (hb.cell (p := ⟨Bn, 0, none⟩) hBn).trans hw
  have hv' := (hb.cell (p := ⟨Bb, 0, none⟩) hBb).trans hv
  obtain ⟨x, hx⟩ : ∃ x, x = n + j := ⟨_, rfl⟩
  obtain ⟨y, hy⟩ : ∃ y, y = n + c := ⟨_, rfl⟩
  rw [← hy] at hs
  obtain ⟨bb, off, cp, b', off', c', rfl, hl1, h1, h2, h3, hl2, h4⟩ := (hs.below hb).cellF i x hi (by omega)
  have HF : Hid (F i (n + j) = F i x) := by show F i (n + j) = F i x; rw [hx]
  unfold maxLen at hl1 hl2
  have hi' : (i : Int) < (r : Int) := by omega
  have hi0 : (0 : Int) ≤ (i : Int) := Int.natCast_nonneg _
  have hx0 : (0 : Int) ≤ (x : Int) := Int.natCast_nonneg _
  have hx' : (x : Int) < (y : Int) := by omega
  have hxx : IntKind.i64.wrap ((n : Int) + (j : Int)) = (x : Int) := by rw [IntWalk.i64_in _ (by omega)]; omega
  clear hw hv hs hx hy
  go_enter Tryd.func131, Tryd.ntmps131
  go_wp2_with fail
  go_quiet (fail)
  go_wp2_with fail
  go_ret
  exact ⟨by rw [HF.out]; rfl, _, rfl⟩

set_option maxHeartbeats 1000000 in
theorem fieldGrid_own (r c : Nat) (F : Ents) (v : Value) (w : World) (hs : SeenM w v (mkM r c F)) (hr : 1 ≤ r) (hr2 : r ≤ 1000) (hc : c ≤ 1000) :
    Calls Tryd.prog 118 #[.agg #[v]] w (RetM 128 142 w (mkM r c F)) := by
  have k1 : TurnIn 0 0 w (w.alloc (.cells #[v] 39)) := turn_alloc _ _
  have HS := Lib.hid (hs.touch k1)
  have K1 := Lib.hid k1
  obtain ⟨A, cp, hvv, _, _⟩ := hs.len
  rw [mkM_length] at hvv
  subst hvv
  clear hs k1
  go_enter Tryd.func118, Tryd.ntmps118
  go_wp2_with fail
  refine (convertedB r c F _ _ HS.out hr hr2 hc).mono ?_
  rintro e w' ⟨v', vs', rfl, hM, ht⟩
  go_wp2_with fail
  go_ret
  exact RetM.base ⟨_, _, rfl, hM, ht⟩ K1.out.to_below

set_option maxHeartbeats 1000000 in
theorem matrixOf_own (r c : Nat) (F : Ents) (v : Value) (w : World) (hs : SeenM w v (mkM r c F)) (hr : 1 ≤ r) (hr2 : r ≤ 1000) (hc : c ≤ 1000) :
    Calls Tryd.prog 120 #[v] w (RetMat 5 22 w (mkM r c F)) := by
  have k1 : TurnIn 0 0 w (w.alloc (.cells #[.slice none 0 0] 39)) := turn_alloc _ _
  have HS := Lib.hid (hs.touch k1)
  have K1 := Lib.hid k1
  obtain ⟨A, cp, hvv, _, _⟩ := hs.len
  rw [mkM_length] at hvv
  subst hvv
  clear hs k1
  go_enter Tryd.func120, Tryd.ntmps120
  go_wp2_with fail
  refine (convertedF r c F _ _ HS.out hr hr2 hc).mono ?_
  rintro e w' ⟨v', vs', rfl, hM, ht⟩
  obtain ⟨A', n', c', rfl⟩ := hM.isSlice
  have hq := cell_turn ht (B := w.heap.size) (o := 0) (x := .slice none 0 0) (by simp) (by simp)
  have hqf := frozen_turn ht (B := w.heap.size) (o := 0) (x := false) (by simp) (by simp)
  have HF := Lib.hid (ret_store K1.out.to_below hM ht w.heap.size 0 (Nat.le_refl _) (by simp) (.slice A' n' c'))
  clear hM ht
  go_wp2_with fail
  refine bodyPost_ret (v := .agg #[.slice A' n' c']) (by simp [results, Tryd.results120, go_sem, hq]) rfl ?_
  exact ⟨_, vs', rfl, HF.out.1, HF.out.2⟩
end Go.Proofs.YtbopocpmodpfcaaDoor

/- sideBySide and solved. -/
namespace G294
def solB (F : Ents) (n : Nat) : Bool := decide ((est F n n).2 = n)
end G294
namespace Go.Proofs.YtbopocpmodpfcaaDoor
open Go.RowKit G294

set_option maxRecDepth 100000 in
set_option maxHeartbeats 1000000 in
theorem sideBySide_own (r n c : Nat) (F G : Ents) (v u : Value) (w : World) (hs : SeenM w v (mkM r n F)) (hu : SeenM w u (mkM r c G)) (hr1 : 1 ≤ r) (hr : r ≤ 1000) (hn : n ≤ 400) (hc : c ≤ 400) :
    Calls Tryd.prog 128 #[v, u] w (RetM 128 142 w (mkM r (n + c) (hcF n F G))) := by
  have k3 : TurnIn 0 0 w (((w.alloc (.cells #[v] 125)).alloc (.cells #[u] 125)).alloc (.cells #[.int .i64 n] 3)) := turn_trans (turn_trans (turn_alloc _ _) (turn_alloc _ _) (by omega)) (turn_alloc _ _) (by omega)
  have z3 : (((w.alloc (.cells #[v] 125)).alloc (.cells #[u] 125)).alloc (.cells #[.int .i64 n] 3)).heap.size = w.heap.size + 3 := by simp
  have q1 : (((w.alloc (.cells #[v] 125)).alloc (.cells #[u] 125)).alloc (.cells #[.int .i64 n] 3)).cell? ⟨w.heap.size, 0, none⟩ = some v := cell_turn (turn_trans (turn_alloc _ _) (turn_alloc _ _) (by omega)) (show (w.alloc (.cells #[v] 125)).cell? ⟨w.heap.size, 0, none⟩ = some v by simp) (by simp)
  have q2 : (((w.alloc (.cells #[v] 125)).alloc (.cells #[u] 125)).alloc (.cells #[.int .i64 n] 3)).cell? ⟨w.heap.size + 1, 0, none⟩ = some u := alloc_mid_cell _ _ _ _ _
  have q3 : (((w.alloc (.cells #[v] 125)).alloc (.cells #[u] 125)).alloc (.cells #[.int .i64 n] 3)).cell? ⟨w.heap.size + 1 + 1, 0, none⟩ = some (.int .i64 n) := alloc_last_cell _ _ _ _ _
  have HG := Lib.hid (sideAt r n c (w.heap.size + 1 + 1) w.heap.size (w.heap.size + 1) F G v u _ (by omega) (by omega) (by omega) (by omega) (by omega) q3 q1 q2 (hs.touch k3) (hu.touch k3))
  obtain ⟨bb, off, cp, A1, c1, rfl, hl1, hbb, hrow0, hl2, _⟩ := hs.rowF 0 (by omega)
  obtain ⟨bb2, off2, cp2, A2, c2, rfl, hl3, hbb2, hrow2, hl4, _⟩ := hu.rowF 0 (by omega)
  rw [Nat.add_zero] at hrow0 hrow2
  have q5 := cell_turn k3 hrow2 hbb2
  have k2 : TurnIn 0 0 w ((w.alloc (.cells #[.slice (some ⟨bb, off, none⟩) r cp] 125)).alloc (.cells #[.slice (some ⟨bb2, off2, none⟩) r cp2] 125)) := turn_trans (turn_alloc _ _) (turn_alloc _ _) (by omega)
  have q6 := cell_turn k2 hrow0 hbb
  have K3 := Lib.hid k3
  have eg := enters_of Tryd.func137 (by kernel_rfl) rfl
  have hpos : 0 < r := hr1
  unfold maxLen at hl1 hl2 hl3 hl4
  clear hs hu k3 k2
  go_enter Tryd.func128, Tryd.ntmps128
  go_wp2_with fail
  generalize (((w.alloc (.cells #[.slice (some ⟨bb, off, none⟩) r cp] 125)).alloc (.cells #[.slice (some ⟨bb2, off2, none⟩) r cp2] 125)).alloc (.cells #[.int .i64 n] 3)) = w2 at *
  have Z3 := Lib.hid z3
  have hsum : IntKind.i64.wrap ((n : Int) + (c : Int)) = ((n + c : Nat) : Int) := by rw [IntWalk.i64_in _ (by omega)]; omega
  clear z3 q6
  go_region_held3 (fun w' => w'.cell? ⟨w.heap.size, 0, none⟩ = some (.slice (some ⟨bb, off, none⟩) r cp) ∧ w'.cell? ⟨w.heap.size + 1, 0, none⟩ = some (.slice (some ⟨bb2, off2, none⟩) r cp2) ∧ w'.cell? ⟨w.heap.size + 1 + 1, 0, none⟩ = some (.int .i64 n) ∧ w'.cell? ⟨bb2, off2, none⟩ = some (.slice A2 c c2))
    (first | exact ⟨q1, q2, q3, q5⟩ | exact ⟨y1, y2, y3, y5⟩)
    ((go_at_call 130; refine (newGridF r (n + c) _ _ _ w2.drew eg (HG.out.later (Below.refl _ _).drew) hr (by omega)).mono ?_; rintro e w' ⟨v', vs', rfl, hM, ht⟩; have z3 := Z3.out; have y1 := cell_turn ht (show w2.drew.cell? _ = _ from q1) (show _ < w2.heap.size by omega); have y2 := cell_turn ht (show w2.drew.cell? _ = _ from q2) (show _ < w2.heap.size by omega); have y3 := cell_turn ht (show w2.drew.cell? _ = _ from q3) (show _ < w2.heap.size by omega); have y5 := cell_turn ht (show w2.drew.cell? _ = _ from q5) (show _ < w2.heap.size by omega); clear z3))
  go_wp2_with fail
  go_ret
  exact RetM.base ⟨_, _, rfl, hM, ht⟩ K3.out.to_below.drew

def RetGridOk (E EE : TypeId) (w : World) (L : Mat) (ok : Bool) (e : Ending) (w' : World) : Prop := ∃ v vs, e = .returned (.tuple #[v, .bool ok]) ∧ OwnM E EE w' w.heap.size w'.heap.size v L vs ∧ TurnIn 0 0 w w'
abbrev solOk (F : Ents) (n : Nat) : Bool := solB F n
def solL (F G : Ents) (n c : Nat) : Mat := if solOk F n = true then mkM n c (bst F G n n) else []

set_option maxRecDepth 100000 in
set_option maxHeartbeats 2000000 in
theorem solved_own (n c : Nat) (F G : Ents) (v u : Value) (w : World) (hs : SeenM w v (mkM n n F)) (hu : SeenM w u (mkM n c G)) (hn1 : 1 ≤ n) (hn : n ≤ 400) (hc : c ≤ 400) (htab : Tab w) (h0 : 0 < w.heap.size) :
    Calls Tryd.prog 117 #[v, u] w (RetGridOk 128 142 w (solL F G n c) (solOk F n)) := by
  have k1 : TurnIn 0 0 w (w.alloc (.cells #[.int .i64 n] 3)) := turn_alloc _ _
  have q1 : (w.alloc (.cells #[.int .i64 n] 3)).cell? ⟨w.heap.size, 0, none⟩ = some (.int .i64 n) := by simp
  have z1 : (w.alloc (.cells #[.int .i64 n] 3)).heap.size = w.heap.size + 1 := by simp
  have HS := Lib.hid (hs.touch k1)
  have HU := Lib.hid (hu.touch k1)
  have HT := Lib.hid (htab.below k1.to_below h0)
  have hle := est_le F n n
  obtain ⟨A, cp, hvv, hl1, hl1'⟩ := hs.len
  rw [mkM_length] at hvv hl1
  obtain ⟨bb2, off2, cp2, A2, c2, rfl, hl3, hbb2, hrow2, hl4, _⟩ := hu.rowF 0 (by omega)
  rw [Nat.add_zero] at hrow2
  subst hvv
  have HR2 := Lib.hid hrow2
  have K1 := Lib.hid k1
  have hpos : 0 < n := hn1
  unfold maxLen at hl1' hl3 hl4
  clear hs hu htab k1 hrow2
  go_enter Tryd.func117, Tryd.ntmps117
  go_wp2_with fail
  generalize (w.alloc (.cells #[.int .i64 n] 3)) = w1 at *
  refine (sideBySide_own n n c F G _ _ _ HS.out HU.out hn1 (by omega) hn hc).mono ?_
  rintro e w2 ⟨y, vs, rfl, hM, ht⟩
  obtain ⟨g, cpb, rfl, hg1, hg2, hg3, hg4⟩ := hM.sliceF hn1
  have s2 := ht.size
  have p1 := cell_turn ht q1 (by omega)
  have k3 : TurnIn 0 0 w2 (w2.alloc (.cells #[.slice (some ⟨g, 0, none⟩) n cpb] 125)) := turn_alloc _ _
  have z3 : (w2.alloc (.cells #[.slice (some ⟨g, 0, none⟩) n cpb] 125)).heap.size = w2.heap.size + 1 := by simp
  have p2 := cell_turn k3 p1 (by omega)
  have p3 : (w2.alloc (.cells #[.slice (some ⟨g, 0, none⟩) n cpb] 125)).cell? ⟨w2.heap.size, 0, none⟩ = some (.slice (some ⟨g, 0, none⟩) n cpb) := by simp
  have HM := Lib.hid (hM.keep k3 (by omega))
  have K3 := Lib.hid (turn_trans ht k3 (by omega))
  have hT3 : Tab (w2.alloc (.cells #[.slice (some ⟨g, 0, none⟩) n cpb] 125)) := HT.out.below K3.out.to_below (by omega)
  have HT3 := Lib.hid hT3
  have Z3 := Lib.hid z3
  have hsz3 : w2.heap.size < (w2.alloc (.cells #[.slice (some ⟨g, 0, none⟩) n cpb] 125)).heap.size := by omega
  unfold maxLen at hg4
  clear hM ht k3 z3 p1 hT3 q1
  go_wp2_with fail
  generalize hw3 : (w2.alloc (.cells #[.slice (some ⟨g, 0, none⟩) n cpb] 125)) = w3 at *
  clear hw3
  have hgl : 0 < w1.heap.size := by omega
  go_region_held3 (fun w' => w'.cell? ⟨w.heap.size, 0, none⟩ = some (.int .i64 n) ∧ w'.cell? ⟨w2.heap.size, 0, none⟩ = some (.slice (some ⟨g, 0, none⟩) n cpb))
    (first | exact ⟨p2, p3⟩ | exact ⟨y2, y3⟩)
    ((go_at_call 129; refine (eliminate_any n (n + c) n _ _ (hcF n F G) _ vs w3.drew (HM.out.drewN 1) hn1 (by omega) (by omega) (by omega) HT3.out hgl).mono ?_; rintro e w4 ⟨vs4, rfl, hM4, hK4⟩; have y2 := (World.cell?_of_block (hK4.block w.heap.size (show w.heap.size < w3.heap.size by omega) (by omega))).trans (show w3.drew.cell? _ = _ from p2); have y3 := (World.cell?_of_block (hK4.block w2.heap.size (show w2.heap.size < w3.heap.size by omega) (by omega))).trans (show w3.drew.cell? _ = _ from p3)))
  rw [est_hc F G n n n (Nat.le_refl _)] at hM4 ⊢
  dsimp only at hM4 ⊢
  have kW4 : TurnIn 0 0 w w4 := turn_trans (turn_trans K1.out K3.out (by omega)) (⟨hK4.os, hK4.tape, hK4.output, hK4.size, hK4.block⟩ : TurnIn w1.heap.size w2.heap.size w3 w4) (by omega)
  have KW4 := Lib.hid kW4
  have s4 := hK4.size
  have s4' : w3.heap.size ≤ w4.heap.size := s4
  have hr4 := cell_turn kW4 HR2.out hbb2
  have HOK : Hid (solB F n = decide ((est F n n).2 = n)) := rfl
  have HLL : Hid (∀ b, solOk F n = b → solL F G n c = if b = true then mkM n c (bst F G n n) else []) := fun b h => by unfold solL; rw [h]
  have HG := Lib.hid (solvedAt n n c w2.heap.size w.heap.size (hcF n (est F n n).1 (bst F G n n)) _ w4 (by omega) (by omega) (by omega) (by omega) y3 y2 hM4.seen)
  have eg := enters_of Tryd.func131 (by kernel_rfl) rfl
  clear hM4 hK4 kW4 s4 p2 p3
  generalize (est F n n).2 = rk at *
  by_cases hrk : rk < n
  · have HO : Hid (solOk F n = false) := by show solB F n = false; rw [HOK.out]; simp; omega
    go_wp2_with fail
    go_ret2
    exact ⟨_, [], by rw [HO.out]; rfl, by rw [HLL.out false HO.out]; exact OwnM.nil _ _ _ _, KW4.out⟩
  · have HO : Hid (solOk F n = true) := by show solB F n = true; rw [HOK.out]; simp; omega
    have hd : decide (rk < n) = false := by simpa using hrk
    go_wp2_with fail
    go_region_held3 (fun w' => w'.cell? ⟨w.heap.size, 0, none⟩ = some (.int .i64 n) ∧ w'.cell? ⟨bb2, off2, none⟩ = some (.slice A2 c c2))
      (first | exact ⟨y2, hr4⟩ | exact ⟨x2, x3⟩)
      ((go_at_call 130; refine (newGridF n c _ _ _ w4.drew eg (HG.out.later (Below.refl _ _).drew) (by omega) (by omega)).mono ?_; rintro e w5 ⟨v5, vs5, rfl, hM5, ht5⟩; have x2 := cell_turn ht5 (show w4.drew.cell? _ = _ from y2) (show _ < w4.heap.size by omega); have x3 := cell_turn ht5 (show w4.drew.cell? _ = _ from hr4) (show _ < w4.heap.size by omega)))
    go_wp2_with fail
    go_ret2
    have hb5 := KW4.out.to_below.drew
    refine ⟨v5, vs5, by rw [HO.out]; rfl, ?_, turn_of_below hb5 ht5⟩
    rw [HLL.out true HO.out, if_pos rfl]
    exact (hM5.congr (mkM_congr fun i j _ _ => by unfold hcF; rw [if_neg (by omega)]; congr 1; omega)).wider hb5.size (Nat.le_refl _) (Nat.le_refl _)
end Go.Proofs.YtbopocpmodpfcaaDoor

/- The program's RankOf and InverseOf. -/
namespace G294
theorem int_beq (a b : Nat) : ((a : Int) == (b : Int)) = decide (a = b) := by
  by_cases h : a = b
  · subst h; simp
  · rw [decide_eq_false h, beq_eq_false_iff_ne]; omega
end G294
namespace Go.Proofs.YtbopocpmodpfcaaDoor
open Go.RowKit G294

set_option maxRecDepth 100000 in
set_option maxHeartbeats 1000000 in
theorem squareMatrix_any (v : Value) (L : Mat) (w : World) (hs : SeenM w v L) : Calls Tryd.prog 116 #[.agg #[v]] w (RetBool w (squareM L)) := by
  have k1 : TurnIn 0 0 w (w.alloc (.cells #[v] 39)) := turn_alloc _ _
  have q1 : (w.alloc (.cells #[v] 39)).cell? ⟨w.heap.size, 0, none⟩ = some v := by simp
  have z1 : (w.alloc (.cells #[v] 39)).heap.size = w.heap.size + 1 := by simp
  have HS := Lib.hid (hs.touch k1)
  obtain ⟨A, cp, rfl, hlc, hcm⟩ := hs.len
  unfold maxLen at hcm
  have K1 := Lib.hid k1
  have Z1 := Lib.hid z1
  by_cases hg : goodM L = true
  · have HG := Lib.hid hg
    obtain ⟨g1, g2, g3, g4, _⟩ := (goodM_iff L).1 hg
    obtain ⟨bb, off, c9, A0, c0, hvv, _, hbb, hrow0, hl2, _⟩ := (show SeenM w (.slice A L.length cp) (mkM L.length (wid L) (ent L)) from (good_eq hg) ▸ hs).rowF 0 (by omega)
    simp only [Value.slice.injEq] at hvv
    obtain ⟨rfl, z9, rfl⟩ := hvv
    clear z9
    rw [Nat.add_zero] at hrow0
    have q2 := cell_turn k1 hrow0 hbb
    have hpos : 0 < L.length := g1
    have HSQ : Hid (squareM L = decide (L.length = wid L)) := by show squareM L = _; unfold squareM; rw [hg]; rfl
    unfold maxLen at hl2
    clear hg hs k1 hrow0 z1
    go_enter Tryd.func116, Tryd.ntmps116
    go_wp2_with fail
    generalize (w.alloc (.cells #[.slice (some ⟨bb, off, none⟩) L.length cp] 39)) = w1 at *
    go_region_held3 (fun w' => w'.cell? ⟨w.heap.size, 0, none⟩ = some (.slice (some ⟨bb, off, none⟩) L.length cp) ∧ w'.cell? ⟨bb, off, none⟩ = some (.slice A0 (wid L) c0))
      (first | exact ⟨q1, q2⟩ | exact ⟨y1, y2⟩)
      ((go_at_call 127; refine (igood_any _ L w1.drew HS.out).mono ?_; rintro e w2 ⟨rfl, ht⟩; rw [HG.out]; have z1 := Z1.out; have y1 := cell_turn ht (show w1.drew.cell? _ = _ from q1) (show _ < w1.heap.size by omega); have y2 := cell_turn ht (show w1.drew.cell? _ = _ from q2) (show _ < w1.heap.size by omega); clear z1))
    all_goals
      go_wp2_with fail
      go_ret
      exact ⟨by rw [HSQ.out, ← int_beq]; rfl, turn_of_below K1.out.to_below.drew ht⟩
  · have HG : Hid (goodM L = false) := by show goodM L = false; simpa using hg
    have HSQ : Hid (squareM L = false) := by show squareM L = false; unfold squareM; rw [HG.out]; rfl
    clear hg hs k1 z1
    go_enter Tryd.func116, Tryd.ntmps116
    go_wp2_with fail
    generalize (w.alloc (.cells #[.slice A L.length cp] 39)) = w1 at *
    have hz1 := Z1.out
    have hcc := grew_cell q1 (by omega)
    have HGG := Lib.hid (fun p : Grew w1 => HG.out ▸ grew_bool (igood_any _ L p.at_ (HS.out.below p.old)))
    clear q1 hz1
    refine wp_region_grew (by kernel_rfl) (by kernel_rfl) ?_
    repeat (first | go_big_quiet_skip | quiet_step ((go_at_call 127; exact HGG.out _)))
    refine wpQuiet_nil ?_
    rintro _ ⟨p, rfl⟩
    go_wp2_with fail
    go_ret
    exact ⟨by rw [HSQ.out]; rfl, turn_of_below K1.out.to_below (TurnIn.of_below p.old)⟩
end Go.Proofs.YtbopocpmodpfcaaDoor
