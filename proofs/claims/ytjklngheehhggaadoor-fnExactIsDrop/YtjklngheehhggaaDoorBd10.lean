/- Joined texts: BolMem, BolWalks, DrpS, Split, SplitI, Join, Concat. -/
import Derived.Test.YtjklngheehhggaaDoorBd00
import Derived.Test.YtjklngheehhggaaDoorBd02
import Derived.Test.YtjklngheehhggaaDoorBd09
import Derived.Lib.LazyBuf
import Derived.Lib.AppendStr
import Derived.Test.YtjklngheehhggaaDoorBd06
import Derived.Lib.AppendZeros
set_option linter.unusedSimpArgs false
set_option linter.unusedVariables false
/- Bools in memory: a slice of bools that is seen, or of the call's own; the bools that a mark writes. -/
namespace G294
open Go Go.RowKit
/-- bools as the cells of memory -/
def bls (l : List Bool) : List Value := l.map fun x => .bool x
@[simp] theorem bls_length (l : List Bool) : (bls l).length = l.length := by simp [bls]
theorem bls_append (l m : List Bool) : bls (l ++ m) = bls l ++ bls m := by simp [bls]
theorem bls_get (l : List Bool) (i : Nat) (h : i < l.length) : (bls l)[i]? = some (.bool l[i]) := by simp [bls, h]
theorem bls_getD (l : List Bool) (i : Nat) (h : i < l.length) : (bls l)[i]? = some (.bool (l.getD i false)) := by simp [bls, List.getD, h]
theorem bls_set (l : List Bool) (k : Nat) (x : Bool) : (bls l).set k (.bool x) = bls (l.set k x) := by simp [bls, List.map_set]
theorem bls_rep (n : Nat) (x : Bool) : bls (List.replicate n x) = List.replicate n (.bool x) := by simp [bls]
theorem bls_oneC (l : List Bool) : ∀ y, y ∈ bls l → y.oneCell' = true := by
  intro y hy
  simp only [bls, List.mem_map] at hy
  obtain ⟨x, _, rfl⟩ := hy
  rfl
/-- a row of bools of the call's own, its block from lo to hi -/
def OwnBools (E : TypeId) (w : World) (lo hi : Nat) (v : Value) (l : List Bool) : Prop := w.ownsRow lo E 1 v l.length (bls l) ∧ hi ≤ w.heap.size ∧ ∀ g, v.ownBlock = some g → g < hi
section
variable {w w' : World} {lo hi a b : Nat} {v : Value} {l : List Bool} {E : TypeId}
theorem OwnBools.keep (h : OwnBools E w lo hi v l) (t : TurnIn a b w w') (d : hi ≤ a ∨ b ≤ lo) : OwnBools E w' lo hi v l :=
  ⟨owns_turn h.1 h.2.2 t d, Nat.le_trans h.2.1 t.size, h.2.2⟩
theorem OwnBools.seen (h : OwnBools E w lo hi v l) : Seen w v (bls l) := Seen.of_own h.1
theorem OwnBools.nil (E : TypeId) (w : World) (lo : Nat) : OwnBools E w lo w.heap.size (.slice none 0 0) [] := ⟨World.ownsRow_nil _ _ _ _, Nat.le_refl _, fun g h => by simp [Value.ownBlock] at h⟩
theorem OwnBools.of_made (h : w'.ownsRow w.heap.size E 1 v l.length (bls l)) : OwnBools E w' w.heap.size w'.heap.size v l := ⟨h, Nat.le_refl _, fun g hg => (h.lt g hg).2⟩
theorem OwnBools.isSlice (h : OwnBools E w lo hi v l) : ∃ A n c, v = .slice A n c := by
  rcases h.1.2 with ⟨hh, _⟩ | ⟨g, cap, cur, hh, _⟩ <;> exact ⟨_, _, _, hh⟩
theorem OwnBools.wider {lo' hi' : Nat} (h : OwnBools E w lo hi v l) (h1 : lo' ≤ lo) (h2 : hi ≤ hi') (h3 : hi' ≤ w.heap.size) : OwnBools E w lo' hi' v l :=
  ⟨own_base h.1 h1, h3, fun g hg => by have := h.2.2 g hg; omega⟩
theorem OwnBools.cellAt {g n cap k : Nat} (h : OwnBools E w lo hi (.slice (some ⟨g, 0, none⟩) n cap) l) (hk : k < l.length) : w.cell? ⟨g, k, none⟩ = some (.bool (l.getD k false)) := by
  have hc := h.1.cells (g := g) rfl k _ (bls_getD l k hk)
  rwa [Addr.add_lit, Nat.zero_add] at hc
theorem OwnBools.frozenAt {g n cap : Nat} (h : OwnBools E w lo hi (.slice (some ⟨g, 0, none⟩) n cap) l) (k : Nat) : w.frozen? ⟨g, k, none⟩ = false := by
  have hn : n = l.length := by
    rcases h.1.2 with ⟨hh, _⟩ | ⟨g', c', cur, hh, _⟩
    · simp at hh
    · simp at hh; exact hh.2.1
  exact (hn ▸ h.1 : w.ownsRow lo E 1 (.slice (some ⟨g, 0, none⟩) n cap) n (bls l)).frozenAt k
theorem OwnBools.store {g n cap q : Nat} {l' : List Bool} {x : Bool} (h : OwnBools E w lo hi (.slice (some ⟨g, 0, none⟩) n cap) l) (hn : l.length = n) (e : l.set q x = l') :
    OwnBools E (w.setCell ⟨g, q, none⟩ (.bool x)) lo hi (.slice (some ⟨g, 0, none⟩) n cap) l' := by
  have h1 := h.1
  rw [hn] at h1
  have hst := h1.stored q (.bool x)
  refine ⟨?_, by simpa using h.2.1, h.2.2⟩
  have e3 : l'.length = n := by rw [← e]; simpa using hn
  rw [← e, ← bls_set, List.length_set, hn]
  exact hst.1
end
def RetBls (E : TypeId) (w : World) (l : List Bool) (e : Ending) (w' : World) : Prop := ∃ v, e = .returned v ∧ OwnBools E w' w.heap.size w'.heap.size v l ∧ TurnIn 0 0 w w'
/-- the bools that marks write -/
def marksL (k n : Nat) : List Bool := (List.range n).map fun i => decide ((k + i) % 3 = 0)
@[simp] theorem marksL_length (k n : Nat) : (marksL k n).length = n := by simp [marksL]
theorem marksL_get (k n i : Nat) (h : i < n) : (bls (marksL k n))[i]? = some (.bool (decide ((k + i) % 3 = 0))) := by simp [bls, marksL, h]
def RetMarkL (E : TypeId) (w : World) (lo hi : Nat) (v : Value) (k n : Nat) (e : Ending) (w' : World) : Prop :=
  e = .returned (.int .i64 ((k + n : Nat) : Int)) ∧ OwnBools E w' lo hi v (marksL k n) ∧ TurnIn lo hi w w'
end G294

/- Contracts of the laws' helpers on []bool: a copy, equality, marks, marks held, size. -/
namespace Go.Proofs.YtjklngheehhggaaDoor
open Go.RowKit G294

theorem infoBool : (Tryd.prog.info? 4).map (fun i => (i.zero, i.size, i.bytes)) = some (some (.bool false), 1, 1) := by kernel_rfl

theorem third (m : Nat) : (((m : Nat) : Int) % 3 == 0) = decide (m % 3 = 0) := by
  by_cases h : m % 3 = 0
  · rw [decide_eq_true h, beq_iff_eq]; omega
  · rw [decide_eq_false h, beq_eq_false_iff_ne]; omega

end Go.Proofs.YtjklngheehhggaaDoor

/- Chapter 9: which blocks a seed chooses: the model's. -/
namespace Go.Proofs.YtjklngheehhggaaDoor
open Go.RowKit G294

set_option maxHeartbeats 400000 in
theorem l9Next_any (s : Nat) (w : World) (hs : s ≤ 100000) : Calls Tryd.prog 142 #[.int .i64 (s : Int)] w fun e w' => e = .returned (.int .i64 ((nxt s : Nat) : Int)) ∧ w = w' := by
  obtain ⟨z, hz⟩ : ∃ z, z = 75 * s := ⟨_, rfl⟩
  have hzb : z ≤ 7500000 := by omega
  have hm : (75 : Int) * (s : Int) = (z : Int) := by rw [hz]; simp
  have hr : ((z : Int) + 74).tmod 65537 = ((nxt s : Nat) : Int) := by
    have e := rem_nat (z + 74) 65537
    have e2 : nxt s = (z + 74) % 65537 := by rw [hz]; rfl
    rw [e2]; exact e
  have hn := nxt_lt s
  generalize nxt s = t at *
  clear hz
  go_enter Tryd.func142, Tryd.ntmps142
  go_wp2_with fail
  go_ret
  exact ⟨rfl, rfl⟩

set_option maxHeartbeats 400000 in
theorem l9Seed_any (n : Int) (w : World) : Calls Tryd.prog 77 #[.int .i64 n] w fun e w' => e = .returned (.bool (seedOk n)) ∧ w = w' := by
  go_enter Tryd.func77, Tryd.ntmps77
  go_wp2_with fail
  refine (l1In_any _ _ _ _).mono ?_
  rintro e w' ⟨rfl, rfl⟩
  go_wp2_with fail
  go_ret
  exact ⟨rfl, rfl⟩

set_option maxRecDepth 100000 in
set_option maxHeartbeats 4000000 in
theorem l9Blocks_own (s b : Nat) (w : World) (hs : s ≤ 100000) (hb1 : 1 ≤ b) (hb2 : b ≤ 12) : Calls Tryd.prog 79 #[.int .i64 (s : Int), .int .i64 (b : Int)] w (RetInts 3 w (intL (blkN s b))) := by
  obtain ⟨i0, hi0, hz0, hz1, hz2⟩ := info_parts infoBool
  have HN := fun t (ht : t ≤ 100000) W => l9Next_any t W ht
  have HE := Lib.hid (fun n s' got F => @chAt_end s b n s' got F)
  have HSK := Lib.hid (fun n s' got F => @chAt_skip s b n s' got F)
  have HTK := Lib.hid (fun n s' got F => @chAt_take s b n s' got F)
  have HC0 : Hid (chAt s b 0 = (nxt s, fun _ => false, 0)) := Lib.hid (chAt_zero s b)
  have hn0 := nxt_lt s
  have hmb := manyB_le s b
  obtain ⟨hmb4, hmbb⟩ := hmb
  have HM : Hid (((nxt s % 4 + 1 : Nat) : Int) > (b : Int) → manyB s b = b) := fun h => by unfold manyB; omega
  have HM2 : Hid (¬ ((nxt s % 4 + 1 : Nat) : Int) > (b : Int) → manyB s b = nxt s % 4 + 1) := fun h => by unfold manyB; omega
  have HBN : Hid (blkN s b = blkK (inF s b) b) := Lib.hid rfl
  rw [HBN.out]
  clear HBN
  generalize manyB s b = mm at *
  have hcase : ∃ q : Nat, q = nxt s % 4 := ⟨_, rfl⟩
  obtain ⟨q, hq⟩ := hcase
  have hq4 : q < 4 := by omega
  have hqe : ((nxt s : Nat) : Int) % 4 = (q : Int) := by omega
  rw [← hq] at HM HM2
  clear hq
  go_enter Tryd.func79, Tryd.ntmps79
  go_wp2_with fail
  refine (HN s hs _).mono ?_
  rintro e w' ⟨rfl, rfl⟩
  generalize nxt s = t0 at *
  by_cases hqb : ((q + 1 : Nat) : Int) > (b : Int)
  · have hbq : (b : Int) < (q : Int) + 1 := by omega
    have hmm : b = mm := (HM.out hqb).symm
    subst hmm
    clear hqb
    go_wp2_with (at_make; refine wpList_make_full _ rfl _ _ _ rfl w.heap.size _ i0 _ 1 Tryd.underlying33 hi0 hz0 hz1 _ _ _ _ b rfl rfl rfl rfl ?b2 ?b3 ?b4 ?_)
    case b2 => rw [hz2]; omega
    case b3 => unfold maxLen; omega
    case b4 => exact Nat.le_refl _
    intro w1 hown1 hg1
    have hb1' : Below w.heap.size w w1 := below_of_grown hg1 (Nat.le_refl _) (by simp)
    rw [toList_madeCells_one] at hown1
    clear hg1
    have hO : OwnBools 4 w1 w.heap.size w1.heap.size (.slice (some ⟨w.heap.size, 0, none⟩) b b) (mkB b fun _ => false) := by
      refine OwnBools.of_made ?_
      rw [mkB_false, bls_rep, List.length_replicate]; exact hown1
    clear hown1
    go_wp2_with fail
    go_loopw [5, 8, 9] (fun num gt usd wr => ∃ (n s' got : Nat) (F : Nat → Bool), n ≤ 200 ∧ s' < 65537 ∧ got ≤ b ∧ num = .int .i64 s' ∧ gt = .int .i64 (got : Int) ∧ usd = .int .i64 n ∧ Hid (chAt s b n = (s', F, got)) ∧ OwnBools 4 wr w.heap.size wr.heap.size (.slice (some ⟨w.heap.size, 0, none⟩) b b) (mkB b F) ∧ Below w.heap.size w wr)
      (fun _ _ usd _ => 200 - (intOf usd).toNat)
    case atStart => exact ⟨0, t0, 0, _, Nat.zero_le _, hn0, Nat.zero_le _, rfl, rfl, rfl, HC0, hO, hb1'⟩
    case round =>
      obtain ⟨n, s', got, F, hn, hs', hg, rfl, rfl, rfl, HC, hO, hb⟩ := hrel
      clear hb1' hn0
      have hdone : Hid (n = 200 ∨ ¬ got < b → inF s b = F) := fun h => HE.out n s' got F HC.out hn h
      by_cases hlt : n < 200 ∧ got < b
      · obtain ⟨hlt, hgt⟩ := hlt
        have hd1 : decide ((n : Int) < 200) = true := by simp; omega
        have hd2 : decide ((got : Int) < (b : Int)) = true := by simp; omega
        have HN2 := Lib.hid (HN s' (by omega) wr)
        have hnl := nxt_lt s'
        have HSK2 := Lib.hid (fun h => HSK.out n s' got F HC.out hgt h)
        have HTK2 := Lib.hid (fun h => HTK.out n s' got F HC.out hgt h)
        generalize nxt s' = t at *
        have hrk := rem_nat t b
        have hkb := Nat.mod_lt t (show 0 < b by omega)
        generalize t % b = k at *
        have hcs := hO.cellAt (k := k) (by simpa using hkb)
        have hfr := hO.frozenAt k
        have hgk : (mkB b F).getD k false = F k := by simp [mkB, List.getD, hkb]
        rw [hgk] at hcs
        have hki : (k : Int) < (b : Int) := by omega
        have hb0 : ¬ (b : Int) = 0 := by omega
        have HO := Lib.hid hO
        clear hO hgk
        cases hF : F k
        · have HF := Lib.hid (HTK2.out hF)
          rw [hF] at hcs
          have hst := HO.out.store (q := k) (x := true) (by simp) (mkB_set b k F)
          have hb2 : Below w.heap.size w (wr.setCell ⟨w.heap.size, k, none⟩ (.bool true)) := hb.setCell (Nat.le_refl _) _
          have HST := Lib.hid hst
          have HB2 := Lib.hid hb2
          clear hst hb2 HSK2 HTK2 hF
          go_wp2_with fail
          refine HN2.out.mono ?_
          rintro e w' ⟨rfl, rfl⟩
          go_wp2_with fail
          go_roundw
          case rel => exact ⟨n + 1, t, got + 1, setB F k, by omega, by omega, by omega, rfl, by go_num, by go_num, HF, by
            have h := HST.out
            exact ⟨h.1, Nat.le_refl _, fun g e => by have := h.2.2 g e; simpa using this⟩, HB2.out⟩
          case measure => simp [intOf]; omega
        · have HF := Lib.hid (HSK2.out hF)
          rw [hF] at hcs
          clear HSK2 HTK2 hF
          go_wp2_with fail
          refine HN2.out.mono ?_
          rintro e w' ⟨rfl, rfl⟩
          go_wp2_with fail
          go_roundw
          case rel => exact ⟨n + 1, t, got, F, by omega, by omega, by omega, rfl, rfl, by go_num, HF, HO.out, hb⟩
          case measure => simp [intOf]; omega
      · have HF : Hid (inF s b = F) := hdone.out (by omega)
        have hdd : (decide ((n : Int) < 200) = false) ∨ (decide ((n : Int) < 200) = true ∧ decide ((got : Int) < (b : Int)) = false ∧ ¬ got < b) := by
          by_cases h : n < 200
          · exact .inr ⟨by simp; omega, by simp; omega, by omega⟩
          · exact .inl (by simp; omega)
        clear hdone HN HE HSK HTK HM HM2 HC0 HC
        obtain ⟨g, cap, hvv, hO2⟩ : ∃ g cap, (Value.slice (some ⟨w.heap.size, 0, none⟩) b b) = .slice (some ⟨g, 0, none⟩) b cap ∧ True := ⟨_, _, rfl, trivial⟩
        clear hvv hO2 g cap
        have HO := Lib.hid hO
        have hwlt : w.heap.size < wr.heap.size := hO.2.2 _ rfl
        clear hO
        rcases hdd with hd1 | ⟨hd1, hd2, hd3⟩
        all_goals
          go_wp2_with fail
          generalize wr = wo at *
          go_loopw [11, 51] (fun o i wr => ∃ k : Nat, k ≤ b ∧ i = .int .i64 k ∧ wr.ownsRow wo.heap.size 3 1 o (blkK F k).length (ints (intL (blkK F k))) ∧ TurnIn 0 0 wo wr)
            (fun _ i _ => b - (intOf i).toNat)
          case atStart => exact ⟨0, Nat.zero_le _, rfl, World.ownsRow_nil _ _ _ _, TurnIn.refl _⟩
          case round =>
            obtain ⟨k, hk, rfl, ho, kr⟩ := hrel
            have zr := kr.size
            by_cases hltk : k < b
            · have hki : (k : Int) < (b : Int) := by omega
              have hcs := (HO.out.keep kr (by omega)).cellAt (k := k) (by simpa using hltk)
              have hgk : (mkB b F).getD k false = F k := by simp [mkB, List.getD, hltk]
              rw [hgk] at hcs
              obtain ⟨t, ht⟩ : ∃ t, t = (blkK F k).length := ⟨_, rfl⟩
              have htk : t ≤ 12 := by have := blkK_len F k; omega
              have HTL : Hid ((blkK F k).length = t) := ht.symm
              rw [← ht] at ho
              have HOO := Lib.hid ho
              clear ho ht hgk
              cases hF : F k
              · rw [hF] at hcs
                have hon : wr.ownsRow wo.heap.size 3 1 u11 (blkK F (k + 1)).length (ints (intL (blkK F (k + 1)))) := by rw [blkK_no hF, HTL.out]; exact HOO.out
                clear hF
                go_wp2_with fail
                go_roundw
                case rel => exact ⟨k + 1, by omega, by go_num, hon, kr⟩
                case measure => simp [intOf]; omega
              · rw [hF] at hcs
                have HPL := Lib.hid (blkK_yes hF)
                have HO2 := Lib.hid (HOO.out.alloc (.cells #[.int .i64 (k : Int)] 3))
                have KA := Lib.hid (turn_trans kr (turn_alloc wr (.cells #[.int .i64 (k : Int)] 3)) (by omega))
                clear hF HOO
                go_wp2_with (at_builtin; refine wpList_append1 rfl _ _ _ rfl wo.heap.size 3 _ _ Tryd.underlying45 infoInt rfl _ t _ rfl HO2.out wr.heap.size (.int .i64 (k : Int)) rfl ?c1 rfl ?c2 ?c3 ?c4 ?_)
                case c1 => simp
                case c2 => omega
                case c3 => omega
                case c4 => simp; omega
                intro v' w3 hown3 hg3 _
                have k3 : TurnIn 0 0 wo w3 := turn_trans' KA.out hg3 (fun g e => (HO2.out.lt g e).1)
                have hon : w3.ownsRow wo.heap.size 3 1 v' (blkK F (k + 1)).length (ints (intL (blkK F (k + 1)))) := by
                  rw [HPL.out, intL_append, ints_append, List.length_append, HTL.out]; exact hown3
                clear hown3 hg3 KA HO2
                go_wp2_with fail
                go_roundw
                case rel => exact ⟨k + 1, by omega, by go_num, hon, k3⟩
                case measure => simp [intOf]; omega
            · obtain rfl : k = b := by omega
              have hki : ¬ (k : Int) < (k : Int) := by omega
              have hox : OwnInts 3 wr w.heap.size wr.heap.size u11 (intL (blkK F k)) := ⟨own_base (by rw [intL_length]; exact ho) (by have := hb.size; omega), Nat.le_refl _, fun g e => (ho.lt g e).2⟩
              have HOX := Lib.hid hox
              clear ho hox
              go_wp2_with fail
              go_ret
              exact ⟨u11, rfl, by rw [HF.out]; exact HOX.out, turn_trans (TurnIn.of_below hb) kr (by omega)⟩
  · have hbq : ¬ (b : Int) < (q : Int) + 1 := by omega
    obtain ⟨m, hm⟩ : ∃ m, m = q + 1 := ⟨_, rfl⟩
    have HMQ : Hid ((q : Int) + 1 = (m : Int)) := by show _ = _; omega
    have hmm : m = mm := by rw [hm]; exact (HM2.out (by omega)).symm
    have HDC : Hid (decide ((b : Int) < (m : Int)) = false) := by show _ = _; simp; omega
    have hbq2 : ¬ (b : Int) < (m : Int) := by omega
    have hbq3 : ¬ b < m := by omega
    subst hmm
    clear hqb hm hbq2 hbq3
    go_wp2_with (at_make; refine wpList_make_full _ rfl _ _ _ rfl w.heap.size _ i0 _ 1 Tryd.underlying33 hi0 hz0 hz1 _ _ _ _ b rfl rfl rfl rfl ?b2 ?b3 ?b4 ?_)
    case b2 => rw [hz2]; omega
    case b3 => unfold maxLen; omega
    case b4 => exact Nat.le_refl _
    intro w1 hown1 hg1
    have hb1' : Below w.heap.size w w1 := below_of_grown hg1 (Nat.le_refl _) (by simp)
    rw [toList_madeCells_one] at hown1
    clear hg1
    have hO : OwnBools 4 w1 w.heap.size w1.heap.size (.slice (some ⟨w.heap.size, 0, none⟩) b b) (mkB b fun _ => false) := by
      refine OwnBools.of_made ?_
      rw [mkB_false, bls_rep, List.length_replicate]; exact hown1
    clear hown1
    go_wp2_with fail
    simp only [HMQ.out, HDC.out]
    go_loopw [5, 8, 9] (fun num gt usd wr => ∃ (n s' got : Nat) (F : Nat → Bool), n ≤ 200 ∧ s' < 65537 ∧ got ≤ m ∧ num = .int .i64 s' ∧ gt = .int .i64 (got : Int) ∧ usd = .int .i64 n ∧ Hid (chAt s b n = (s', F, got)) ∧ OwnBools 4 wr w.heap.size wr.heap.size (.slice (some ⟨w.heap.size, 0, none⟩) b b) (mkB b F) ∧ Below w.heap.size w wr)
      (fun _ _ usd _ => 200 - (intOf usd).toNat)
    case atStart => exact ⟨0, t0, 0, _, Nat.zero_le _, hn0, Nat.zero_le _, rfl, rfl, rfl, HC0, hO, hb1'⟩
    case round =>
      obtain ⟨n, s', got, F, hn, hs', hg, rfl, rfl, rfl, HC, hO, hb⟩ := hrel
      clear hb1' hn0
      have hdone : Hid (n = 200 ∨ ¬ got < m → inF s b = F) := fun h => HE.out n s' got F HC.out hn h
      by_cases hlt : n < 200 ∧ got < m
      · obtain ⟨hlt, hgt⟩ := hlt
        have hd1 : decide ((n : Int) < 200) = true := by simp; omega
        have hd2 : decide ((got : Int) < (m : Int)) = true := by simp; omega
        have HN2 := Lib.hid (HN s' (by omega) wr)
        have hnl := nxt_lt s'
        have HSK2 := Lib.hid (fun h => HSK.out n s' got F HC.out hgt h)
        have HTK2 := Lib.hid (fun h => HTK.out n s' got F HC.out hgt h)
        generalize nxt s' = t at *
        have hrk := rem_nat t b
        have hkb := Nat.mod_lt t (show 0 < b by omega)
        generalize t % b = k at *
        have hcs := hO.cellAt (k := k) (by simpa using hkb)
        have hfr := hO.frozenAt k
        have hgk : (mkB b F).getD k false = F k := by simp [mkB, List.getD, hkb]
        rw [hgk] at hcs
        have hki : (k : Int) < (b : Int) := by omega
        have hb0 : ¬ (b : Int) = 0 := by omega
        have HO := Lib.hid hO
        clear hO hgk
        cases hF : F k
        · have HF := Lib.hid (HTK2.out hF)
          rw [hF] at hcs
          have hst := HO.out.store (q := k) (x := true) (by simp) (mkB_set b k F)
          have hb2 : Below w.heap.size w (wr.setCell ⟨w.heap.size, k, none⟩ (.bool true)) := hb.setCell (Nat.le_refl _) _
          have HST := Lib.hid hst
          have HB2 := Lib.hid hb2
          clear hst hb2 HSK2 HTK2 hF
          go_wp2_with fail
          refine HN2.out.mono ?_
          rintro e w' ⟨rfl, rfl⟩
          go_wp2_with fail
          go_roundw
          case rel => exact ⟨n + 1, t, got + 1, setB F k, by omega, by omega, by omega, rfl, by go_num, by go_num, HF, by
            have h := HST.out
            exact ⟨h.1, Nat.le_refl _, fun g e => by have := h.2.2 g e; simpa using this⟩, HB2.out⟩
          case measure => simp [intOf]; omega
        · have HF := Lib.hid (HSK2.out hF)
          rw [hF] at hcs
          clear HSK2 HTK2 hF
          go_wp2_with fail
          refine HN2.out.mono ?_
          rintro e w' ⟨rfl, rfl⟩
          go_wp2_with fail
          go_roundw
          case rel => exact ⟨n + 1, t, got, F, by omega, by omega, by omega, rfl, rfl, by go_num, HF, HO.out, hb⟩
          case measure => simp [intOf]; omega
      · have HF : Hid (inF s b = F) := hdone.out (by omega)
        have hdd : (decide ((n : Int) < 200) = false) ∨ (decide ((n : Int) < 200) = true ∧ decide ((got : Int) < (m : Int)) = false ∧ ¬ got < m) := by
          by_cases h : n < 200
          · exact .inr ⟨by simp; omega, by simp; omega, by omega⟩
          · exact .inl (by simp; omega)
        clear hdone HN HE HSK HTK HM HM2 HC0 HC
        obtain ⟨g, cap, hvv, hO2⟩ : ∃ g cap, (Value.slice (some ⟨w.heap.size, 0, none⟩) b b) = .slice (some ⟨g, 0, none⟩) b cap ∧ True := ⟨_, _, rfl, trivial⟩
        clear hvv hO2 g cap
        have HO := Lib.hid hO
        have hwlt : w.heap.size < wr.heap.size := hO.2.2 _ rfl
        clear hO
        rcases hdd with hd1 | ⟨hd1, hd2, hd3⟩
        all_goals
          go_wp2_with fail
          generalize wr = wo at *
          go_loopw [11, 51] (fun o i wr => ∃ k : Nat, k ≤ b ∧ i = .int .i64 k ∧ wr.ownsRow wo.heap.size 3 1 o (blkK F k).length (ints (intL (blkK F k))) ∧ TurnIn 0 0 wo wr)
            (fun _ i _ => b - (intOf i).toNat)
          case atStart => exact ⟨0, Nat.zero_le _, rfl, World.ownsRow_nil _ _ _ _, TurnIn.refl _⟩
          case round =>
            obtain ⟨k, hk, rfl, ho, kr⟩ := hrel
            have zr := kr.size
            by_cases hltk : k < b
            · have hki : (k : Int) < (b : Int) := by omega
              have hcs := (HO.out.keep kr (by omega)).cellAt (k := k) (by simpa using hltk)
              have hgk : (mkB b F).getD k false = F k := by simp [mkB, List.getD, hltk]
              rw [hgk] at hcs
              obtain ⟨t, ht⟩ : ∃ t, t = (blkK F k).length := ⟨_, rfl⟩
              have htk : t ≤ 12 := by have := blkK_len F k; omega
              have HTL : Hid ((blkK F k).length = t) := ht.symm
              rw [← ht] at ho
              have HOO := Lib.hid ho
              clear ho ht hgk
              cases hF : F k
              · rw [hF] at hcs
                have hon : wr.ownsRow wo.heap.size 3 1 u11 (blkK F (k + 1)).length (ints (intL (blkK F (k + 1)))) := by rw [blkK_no hF, HTL.out]; exact HOO.out
                clear hF
                go_wp2_with fail
                go_roundw
                case rel => exact ⟨k + 1, by omega, by go_num, hon, kr⟩
                case measure => simp [intOf]; omega
              · rw [hF] at hcs
                have HPL := Lib.hid (blkK_yes hF)
                have HO2 := Lib.hid (HOO.out.alloc (.cells #[.int .i64 (k : Int)] 3))
                have KA := Lib.hid (turn_trans kr (turn_alloc wr (.cells #[.int .i64 (k : Int)] 3)) (by omega))
                clear hF HOO
                go_wp2_with (at_builtin; refine wpList_append1 rfl _ _ _ rfl wo.heap.size 3 _ _ Tryd.underlying45 infoInt rfl _ t _ rfl HO2.out wr.heap.size (.int .i64 (k : Int)) rfl ?c1 rfl ?c2 ?c3 ?c4 ?_)
                case c1 => simp
                case c2 => omega
                case c3 => omega
                case c4 => simp; omega
                intro v' w3 hown3 hg3 _
                have k3 : TurnIn 0 0 wo w3 := turn_trans' KA.out hg3 (fun g e => (HO2.out.lt g e).1)
                have hon : w3.ownsRow wo.heap.size 3 1 v' (blkK F (k + 1)).length (ints (intL (blkK F (k + 1)))) := by
                  rw [HPL.out, intL_append, ints_append, List.length_append, HTL.out]; exact hown3
                clear hown3 hg3 KA HO2
                go_wp2_with fail
                go_roundw
                case rel => exact ⟨k + 1, by omega, by go_num, hon, k3⟩
                case measure => simp [intOf]; omega
            · obtain rfl : k = b := by omega
              have hki : ¬ (k : Int) < (k : Int) := by omega
              have hox : OwnInts 3 wr w.heap.size wr.heap.size u11 (intL (blkK F k)) := ⟨own_base (by rw [intL_length]; exact ho) (by have := hb.size; omega), Nat.le_refl _, fun g e => (ho.lt g e).2⟩
              have HOX := Lib.hid hox
              clear ho hox
              go_wp2_with fail
              go_ret
              exact ⟨u11, rfl, by rw [HF.out]; exact HOX.out, turn_trans (TurnIn.of_below hb) kr (by omega)⟩

set_option maxRecDepth 100000 in
set_option maxHeartbeats 2000000 in
theorem sBlocksOf_own (s b : Int) (w : World) : Calls Tryd.prog 21 #[.int .i64 s, .int .i64 b] w (RetIntsOk 3 w (blkR s b) (blkOk s b)) := by
  by_cases h1 : seedOk s = true
  · have hs := seedOk_b h1
    have H1 := Lib.hid h1
    by_cases h2 : bcOk b = true
    · have hb := bcOk_b h2
      have H2 : Hid (inB b 1 12 = true) := Lib.hid h2
      have HOK : Hid (blkOk s b = true) := by show blkOk s b = true; simp [blkOk, h1, h2]
      have HR : Hid (blkR s b = intL (blkN s.toNat b.toNat)) := if_pos HOK.out
      obtain ⟨s, rfl⟩ := Int.eq_ofNat_of_zero_le hs.1
      obtain ⟨b, rfl⟩ := Int.eq_ofNat_of_zero_le (show 0 ≤ b by omega)
      simp only [Int.toNat_natCast] at HR
      have HD := Lib.hid (l9Blocks_own s b w (by omega) (by omega) (by omega))
      clear h1 h2
      go_enter Tryd.func21, Tryd.ntmps21
      go_wp2_with fail
      refine (l9Seed_any _ _).mono ?_
      rintro e w' ⟨rfl, rfl⟩
      rw [H1.out]
      go_wp2_with fail
      refine (l1In_any _ _ _ _).mono ?_
      rintro e w' ⟨rfl, rfl⟩
      rw [H2.out]
      go_wp2_with fail
      refine HD.out.mono ?_
      rintro e w1 ⟨v1, rfl, o1, k1⟩
      go_wp2_with fail
      go_ret2
      exact ⟨_, by rw [HOK.out]; rfl, by rw [HR.out]; exact o1, k1⟩
    · have H2 : Hid (inB b 1 12 = false) := by show bcOk b = false; simpa using h2
      have HOK : Hid (blkOk s b = false) := by show blkOk s b = false; simp [blkOk, show bcOk b = false from H2.out]
      have HR : Hid (blkR s b = []) := if_neg (by rw [HOK.out]; decide)
      clear h1 h2
      go_enter Tryd.func21, Tryd.ntmps21
      go_wp2_with fail
      refine (l9Seed_any _ _).mono ?_
      rintro e w' ⟨rfl, rfl⟩
      rw [H1.out]
      go_wp2_with fail
      refine (l1In_any _ _ _ _).mono ?_
      rintro e w' ⟨rfl, rfl⟩
      rw [H2.out]
      go_wp2_with fail
      go_ret2
      exact ⟨_, by rw [HOK.out]; rfl, by rw [HR.out]; exact OwnInts.nil _ _ _, TurnIn.refl _⟩
  · have H1 : Hid (seedOk s = false) := by show seedOk s = false; simpa using h1
    have HOK : Hid (blkOk s b = false) := by show blkOk s b = false; simp [blkOk, H1.out]
    have HR : Hid (blkR s b = []) := if_neg (by rw [HOK.out]; decide)
    clear h1
    go_enter Tryd.func21, Tryd.ntmps21
    go_wp2_with fail
    refine (l9Seed_any _ _).mono ?_
    rintro e w' ⟨rfl, rfl⟩
    rw [H1.out]
    go_wp2_with fail
    go_ret2
    exact ⟨_, by rw [HOK.out]; rfl, by rw [HR.out]; exact OwnInts.nil _ _ _, TurnIn.refl _⟩

end Go.Proofs.YtjklngheehhggaaDoor

/- SplitText: the model's and the program's. -/
namespace Go.Proofs.YtjklngheehhggaaDoor
open Go.RowKit G294

set_option maxRecDepth 100000 in
set_option maxHeartbeats 2000000 in
theorem l3Split_own (s : List UInt8) (k : Nat) (w : World) (h1 : 1 ≤ k) (h8 : k ≤ 8) (hs : s.length ≤ k * 40) : Calls Tryd.prog 126 #[.string (str s), .int .i64 k] w (RetStrs 9 w (splitL s k)) := by
  obtain ⟨i0, hi0, hz0, hz1, hz2⟩ := info_parts infoByte
  have hps := partSize_le s.length k h1 hs
  have hpm := partSize_mul s.length k h1
  have HL := Lib.hid (padded_length s k h1)
  have hsz := str_size s
  have hkz : (k : Int) ≠ 0 := by omega
  have hdiv : ((s.length : Int) + (k : Int) - 1) / (k : Int) = ((partSize s.length k : Nat) : Int) := by
    unfold partSize
    have : ((s.length + k - 1 : Nat) : Int) = (s.length : Int) + (k : Int) - 1 := by omega
    rw [Int.natCast_ediv, this]
  obtain ⟨z, hz⟩ : ∃ z, z = partSize s.length k := ⟨_, rfl⟩
  rw [← hz] at hps hpm hdiv
  have HZ := Lib.hid hz
  clear hz
  obtain ⟨n, hn⟩ : ∃ n, n = s.length := ⟨_, rfl⟩
  rw [← hn] at hs hpm hsz hdiv
  have HN := Lib.hid hn
  clear hn
  obtain ⟨kz, hkz'⟩ : ∃ kz, kz = k * z := ⟨_, rfl⟩
  have hkb : kz ≤ 320 := by rw [hkz']; exact Nat.mul_le_mul h8 hps
  have hkm : (k : Int) * (z : Int) = (kz : Int) := by rw [hkz']; exact (Int.natCast_mul k z).symm
  rw [← hkz'] at hpm
  have HKZ := Lib.hid hkz'
  clear hkz'
  have hsub : (kz : Int) - (n : Int) = ((kz - n : Nat) : Int) := by omega
  have hpad : str s ++ str (List.replicate (kz - n) 0) = str (padded s k) := by
    rw [str_append, padded, ← HZ.out, ← HN.out, ← HKZ.out]
  have hpl : (str (padded s k)).size = kz := by rw [str_size, HL.out, ← HZ.out, HKZ.out]
  have hsm : ¬ 9223372036854775807 < n + (str (List.replicate (kz - n) 0)).size := by rw [str_size]; simp; omega
  go_enter Tryd.func126, Tryd.ntmps126
  go_wp2_with (at_make; refine wpList_make_full _ rfl _ _ _ rfl w.heap.size _ i0 _ 1 Tryd.underlying22 hi0 hz0 hz1 _ _ _ _ (kz - n) rfl rfl (by first | rfl | exact hsub) (by first | rfl | exact hsub) ?b2 ?b3 ?b4 ?_)
  case b2 => rw [hz2]; omega
  case b3 => unfold maxLen; omega
  case b4 => exact Nat.le_refl _
  intro w1 hown1 hg1
  have hb1 : Below w.heap.size w w1 := below_of_grown hg1 (Nat.le_refl _) (by simp)
  rw [toList_madeCells_one] at hown1
  have hseen : Seen w1 (.slice (some ⟨w.heap.size, 0, none⟩) (kz - n) (kz - n)) (bys (List.replicate (kz - n) 0)) := by
    have e : bys (List.replicate (kz - n) 0) = List.replicate (kz - n) (.int .u8 0) := by simp [bys, List.map_replicate]
    rw [e]; exact Seen.of_own hown1
  have hconv := run_string_seen (P := Tryd.prog) 22 5 9 Tryd.underlying22 Tryd.underlying5 Tryd.underlying9 hseen
  clear hg1 hown1 hseen
  go_wp2_with fail
  clear hconv hdiv hpad hsub
  go_loopw [6, 7] (fun o i wr => ∃ m : Nat, m ≤ k ∧ i = .int .i64 m ∧ wr.ownsRow w.heap.size 9 1 o m (strs ((List.range m).map (splitP s k))) ∧ Below w.heap.size w wr)
    (fun _ i _ => k - (intOf i).toNat)
  case atStart => exact ⟨0, Nat.zero_le _, rfl, World.ownsRow_nil _ _ _ _, hb1⟩
  case round =>
    obtain ⟨m, hm, rfl, hown, hb⟩ := hrel
    by_cases hlt : m < k
    · have hki : (m : Int) < (k : Int) := by omega
      have hmz1 : (m + 1) * z ≤ k * z := Nat.mul_le_mul_right _ hlt
      obtain ⟨mz, hmz⟩ : ∃ mz, mz = m * z := ⟨_, rfl⟩
      have hm1 : (m + 1) * z = mz + z := by rw [Nat.add_mul, hmz]; omega
      have q1 : (m : Int) * (z : Int) = (mz : Int) := by rw [hmz]; exact (Int.natCast_mul m z).symm
      have q2 : ((m : Int) + 1) * (z : Int) = (mz : Int) + (z : Int) := by rw [Int.add_mul, q1]; omega
      have hle : mz + z ≤ kz := by rw [hm1, ← HKZ.out] at hmz1; exact hmz1
      have hex : (str (padded s k)).extract mz (mz + z) = str (splitP s k m) := by
        rw [extract_str, splitP, ← HZ.out, hmz, Nat.add_sub_cancel_left]
      have HMZ := Lib.hid hmz
      clear hmz hm1 hmz1
      go_wp2_with (at_builtin; refine wpList_append1 rfl _ _ _ rfl w.heap.size 9 _ _ Tryd.underlying23 infoStr rfl _ m _ rfl (hown.alloc _) wr.heap.size (.string (str (splitP s k m))) rfl ?c1 rfl ?c2 ?c3 ?c4 ?_)
      case c1 => simp
      case c2 => omega
      case c3 => omega
      case c4 => have := hb.size; simp; omega
      intro v' w' hown' hg' _
      have hb' : Below w.heap.size w w' := below_append (hb.alloc hb.size _) (hown.alloc _) hg' (Nat.le_refl _) (by have := hb.size; simp; omega)
      have hown2 : w'.ownsRow w.heap.size 9 1 v' (m + 1) (strs ((List.range (m + 1)).map (splitP s k))) := by
        rw [splitL_succ, strs_append]; exact hown'
      clear hown' hg'
      go_wp2_with fail
      go_roundw
      case rel => exact ⟨m + 1, by omega, by go_num, hown2, hb'⟩
      case measure => simp [intOf]; omega
    · obtain rfl : m = k := by omega
      have hki : ¬ (m : Int) < (m : Int) := by omega
      go_wp2_with fail
      go_ret
      exact ⟨_, rfl, OwnStrs.of_made (by simpa [splitL] using hown), TurnIn.of_below hb⟩

set_option maxRecDepth 100000 in
set_option maxHeartbeats 2000000 in
theorem sSplitText_own (s : List UInt8) (k : Int) (w : World) (hn : s.length ≤ 1048576) : Calls Tryd.prog 60 #[.string (str s), .int .i64 k] w (RetStrsOk 9 w (splitR s k) (splitOk s k)) := by
  have hsz := str_size s
  by_cases h : dataOk k = true
  · have HI : Hid (inB k 1 8 = true) := h
    have hb : 1 ≤ k ∧ k ≤ 8 := by simpa [dataOk] using h
    obtain ⟨m, rfl⟩ := Int.eq_ofNat_of_zero_le (show 0 ≤ k by omega)
    by_cases h2 : s.length ≤ m * 40
    · have HO : Hid (splitOk s m = true) := by show splitOk s m = true; simp only [splitOk, h, Bool.true_and, decide_eq_true_eq]; omega
      have HR : Hid (splitR s m = splitL s m) := by show splitR s m = _; unfold splitR; rw [if_pos HO.out]; simp
      have hno : ¬ (m : Int) * 40 < (s.length : Int) := by omega
      have hdc : decide ((m : Int) * 40 < (s.length : Int)) = false := by simpa using hno
      have H2 := Lib.hid h2
      clear h h2
      go_enter Tryd.func60, Tryd.ntmps60
      go_wp2_with fail
      refine (l1In_any _ _ _ _).mono ?_
      rintro e w' ⟨rfl, rfl⟩
      rw [HI.out]
      go_wp2_with fail
      refine (l3Split_own s m _ (by omega) (by omega) H2.out).mono ?_
      rintro e w' ⟨v', rfl, ho, ht⟩
      go_wp2_with fail
      go_ret2
      exact ⟨v', by rw [HO.out]; rfl, by rw [HR.out]; exact ho, ht⟩
    · have HO : Hid (splitOk s m = false) := by show splitOk s m = false; simp only [splitOk, h, Bool.true_and, decide_eq_false_iff_not]; omega
      have HR : Hid (splitR s m = []) := by show splitR s m = _; unfold splitR; rw [if_neg (by rw [HO.out]; simp)]
      have hno : (m : Int) * 40 < (s.length : Int) := by omega
      have hdc : decide ((m : Int) * 40 < (s.length : Int)) = true := by simpa using hno
      clear h h2
      go_enter Tryd.func60, Tryd.ntmps60
      go_wp2_with fail
      refine (l1In_any _ _ _ _).mono ?_
      rintro e w' ⟨rfl, rfl⟩
      rw [HI.out]
      go_wp2_with fail
      go_ret2
      exact ⟨.slice none 0 0, by rw [HO.out]; rfl, by rw [HR.out]; exact OwnStrs.nil _ _ _, TurnIn.refl _⟩
  · have HI : Hid (inB k 1 8 = false) := by show inB k 1 8 = false; simpa [dataOk, inB] using h
    have HO : Hid (splitOk s k = false) := by show splitOk s k = false; simp [splitOk, h]
    have HR : Hid (splitR s k = []) := by show splitR s k = _; unfold splitR; rw [if_neg (by rw [HO.out]; simp)]
    clear h
    go_enter Tryd.func60, Tryd.ntmps60
    go_wp2_with fail
    refine (l1In_any _ _ _ _).mono ?_
    rintro e w' ⟨rfl, rfl⟩
    rw [HI.out]
    go_wp2_with fail
    go_ret2
    exact ⟨.slice none 0 0, by rw [HO.out]; rfl, by rw [HR.out]; exact OwnStrs.nil _ _ _, TurnIn.refl _⟩

end Go.Proofs.YtjklngheehhggaaDoor

/- SplitText: the program's. -/
namespace G294
open Go Go.RowKit
theorem own_setCells {base g n cap : Nat} {e : TypeId} : ∀ (vs : List Value) (o : Nat) (w : World) (xs : List Value), w.ownsRow base e 1 (.slice (some ⟨g, 0, none⟩) n cap) n xs → o + vs.length ≤ n →
    (w.setCells g o vs).ownsRow base e 1 (.slice (some ⟨g, 0, none⟩) n cap) n (xs.take o ++ (vs ++ xs.drop (o + vs.length))) ∧ w.grownBy (w.setCells g o vs) (some g)
  | [], o, w, xs, h, hl => ⟨by simpa [World.setCells] using h, World.grownBy.refl _ _⟩
  | v :: r, o, w, xs, h, hl => by
    have hx : xs.length = n := by have := h.1; omega
    have hs := h.stored o v
    have ih := own_setCells r (o + 1) _ _ hs.1 (by simp at hl; omega)
    refine ⟨?_, hs.2.trans ih.2⟩
    have e : xs.take o ++ (v :: r ++ xs.drop (o + (v :: r).length)) = (xs.set o v).take (o + 1) ++ (r ++ (xs.set o v).drop (o + 1 + r.length)) := by
      have ho : o < xs.length := by simp at hl; omega
      rw [List.take_succ_eq_append_getElem (by simpa using ho)]
      simp only [List.getElem_set_self, List.take_set_of_le (Nat.le_refl o), List.append_assoc, List.cons_append, List.nil_append, List.length_cons]
      rw [List.drop_set_of_lt (by omega)]
      congr 4
      omega
    rw [e]
    exact ih.1
/-- copy(dst, s) of a text that is no longer than the row, onto a row of the call's own -/
theorem run_copy_str {P : Program} {w : World} (dT sT ty elem : TypeId) (hu : P.underlying dT = some (.slice elem)) (hsz : ∀ w, (Go.sizeOf elem).run P w = .ok 1 w)
    (base g n cap : Nat) (t : List UInt8) (xs : List Value) (hown : w.ownsRow base elem 1 (.slice (some ⟨g, 0, none⟩) n cap) n xs) (hle : t.length ≤ n) :
    ∃ w', (Builtin.copy_ #[dT, sT] ty #[.slice (some ⟨g, 0, none⟩) n cap, .string (str t)]).run P w = .ok (goInt t.length) w' ∧ w'.ownsRow base elem 1 (.slice (some ⟨g, 0, none⟩) n cap) n (bys t ++ xs.drop t.length) ∧ w.grownBy w' (some g) := by
  have hx : xs.length = n := by have := hown.1; omega
  have hrun := run_copy_string (P := P) w dT sT ty elem g 0 n cap (str t) hu hsz (by rw [str_size]; exact hle) (fun j hj => by
    rw [str_size] at hj
    rw [Nat.zero_add, hown.cellAt j (by omega), List.getElem?_eq_getElem (by omega)]; rfl) (fun j hj => by rw [Nat.zero_add]; exact hown.frozenAt j)
  have hst := own_setCells (bys t) 0 w xs hown (by simpa using hle)
  have hm : ((str t).data.toList.map fun x => Value.int .u8 (x.toNat : Int)) = bys t := by simp [str, bys]
  rw [hm, str_size] at hrun
  exact ⟨_, hrun, by simpa using hst.1, hst.2⟩
/-- a part of a row of bytes -/
theorem seen_part {E : TypeId} {w : World} {lo hi g n cap a z : Nat} {l : List UInt8} (h : OwnBytes E w lo hi (.slice (some ⟨g, 0, none⟩) n cap) l) (hl : l.length = n) (hc : cap ≤ maxLen) (hnc : n ≤ cap) (ha : a + z ≤ n) :
    Seen w (.slice (some ⟨g, a, none⟩) z (cap - a)) (bys ((l.drop a).take z)) := by
  have hlen : ((l.drop a).take z).length = z := by rw [List.length_take, List.length_drop]; omega
  refine ⟨_, cap - a, by rw [bys_length, hlen], by rw [bys_length, hlen]; omega, by omega, fun _ => ⟨g, a, rfl, (h.1.lt g rfl).2, fun i u hu => ?_⟩⟩
  have hi : i < ((l.drop a).take z).length := by have := (List.getElem?_eq_some_iff.1 hu).1; simpa using this
  rw [bys_get _ i hi] at hu
  rw [hlen] at hi
  have hc' := h.1.cells (g := g) rfl (a + i) _ (bys_get l (a + i) (by omega))
  rw [Addr.add_lit, Nat.zero_add] at hc'
  rw [hc', ← hu]
  simp
theorem seen_part0 {w : World} {A : Option Addr} {c : Nat} (hc : c ≤ maxLen) (l : List UInt8) (hl : l = []) : Seen w (.slice A 0 c) (bys l) := by
  subst hl
  exact ⟨A, c, rfl, Nat.zero_le _, hc, fun h => by simp at h⟩
end G294
namespace Go.Proofs.YtjklngheehhggaaDoor
open Go.RowKit G294

theorem sizeByte (w : World) : (Go.sizeOf 5).run Tryd.prog w = .ok 1 w := by
  obtain ⟨i0, hi0, hz0, hz1, hz2⟩ := info_parts infoByte
  simp [Go.sizeOf, typeInfo, hi0, hz1]

set_option maxRecDepth 100000 in
set_option maxHeartbeats 2000000 in
theorem splitText_yes (s : List UInt8) (k : Nat) (w : World) (h1 : 1 ≤ k) (h8 : k ≤ 8) (hs : s.length ≤ k * 40) : Calls Tryd.prog 59 #[.string (str s), .int .i64 k] w (RetStrsOk 9 w (splitL s k) true) := by
  obtain ⟨i0, hi0, hz0, hz1, hz2⟩ := info_parts infoByte
  obtain ⟨i1, hi1, hy0, hy1, hy2⟩ := info_parts infoStr
  have hps := partSize_le s.length k h1 hs
  have hpm := partSize_mul s.length k h1
  have HL := Lib.hid (padded_length s k h1)
  have hsz := str_size s
  have HD : Hid (dataOk k = true) := by show dataOk k = true; simp [dataOk]; omega
  have hkz : (k : Int) ≠ 0 := by omega
  have hdiv : ((s.length : Int) + (k : Int) - 1) / (k : Int) = ((partSize s.length k : Nat) : Int) := by
    unfold partSize
    have : ((s.length + k - 1 : Nat) : Int) = (s.length : Int) + (k : Int) - 1 := by omega
    rw [Int.natCast_ediv, this]
  obtain ⟨z, hz⟩ : ∃ z, z = partSize s.length k := ⟨_, rfl⟩
  rw [← hz] at hps hpm hdiv
  have HZ := Lib.hid hz
  clear hz
  obtain ⟨n, hn⟩ : ∃ n, n = s.length := ⟨_, rfl⟩
  rw [← hn] at hs hpm hsz hdiv
  have HN := Lib.hid hn
  clear hn
  obtain ⟨kz, hkz'⟩ : ∃ kz, kz = k * z := ⟨_, rfl⟩
  have hkb : kz ≤ 320 := by rw [hkz']; exact Nat.mul_le_mul h8 hps
  have hkm : (k : Int) * (z : Int) = (kz : Int) := by rw [hkz']; exact (Int.natCast_mul k z).symm
  rw [← hkz'] at hpm
  have HKZ := Lib.hid hkz'
  clear hkz'
  have hno : ¬ (k : Int) * 40 < (n : Int) := by omega
  have hdc : decide ((k : Int) * 40 < (n : Int)) = false := by simpa using hno
  have hpl : (padded s k).length = kz := by rw [HL.out, ← HZ.out, HKZ.out]
  have hpb : bys (padded s k) = bys s ++ List.replicate (kz - n) (.int .u8 0) := by
    rw [padded, ← HZ.out, ← HN.out, ← HKZ.out, bys_append]
    congr 1
    simp [bys, List.map_replicate]
  have HPL := Lib.hid hpl
  have HPB := Lib.hid hpb
  clear hpl hpb
  go_enter Tryd.func59, Tryd.ntmps59
  go_wp2_with fail
  refine (goodDataCount_any _ _).mono ?_
  rintro e w' ⟨rfl, rfl⟩
  rw [HD.out]
  go_wp2_with (at_make; refine wpList_make_full _ rfl _ _ _ rfl w.heap.size _ i0 _ 1 Tryd.underlying22 hi0 hz0 hz1 _ _ _ _ kz rfl rfl rfl rfl ?b2 ?b3 ?b4 ?_)
  case b2 => rw [hz2]; omega
  case b3 => unfold maxLen; omega
  case b4 => exact Nat.le_refl _
  intro w1 hown1 hg1
  have hb1 : Below w.heap.size w w1 := below_of_grown hg1 (Nat.le_refl _) (by simp)
  rw [toList_madeCells_one] at hown1
  obtain ⟨w2, hrun, hown2, hg2⟩ := run_copy_str (P := Tryd.prog) 22 9 3 5 Tryd.underlying22 sizeByte w.heap.size w.heap.size kz kz s _ hown1 (by rw [← HN.out]; exact hpm)
  have hb2 : Below w.heap.size w w2 := hb1.grown hg2 hb1.size (fun g e => by cases e; exact Nat.le_refl _)
  have hsz2 : w.heap.size < w2.heap.size := (hown2.lt w.heap.size rfl).2
  have hP : OwnBytes 5 w2 w.heap.size w2.heap.size (.slice (some ⟨w.heap.size, 0, none⟩) kz kz) (padded s k) := by
    refine ⟨?_, Nat.le_refl _, fun g e => by simp [Value.ownBlock] at e; omega⟩
    rw [HPL.out, HPB.out]
    rw [List.drop_replicate, ← HN.out] at hown2
    exact hown2
  clear hown1 hg1 hg2 hown2 hb1
  go_wp2_with (at_make; refine wpList_make_full _ rfl _ _ _ rfl w2.heap.size _ i1 _ 1 Tryd.underlying23 hi1 hy0 hy1 _ _ _ _ k rfl rfl rfl rfl ?d2 ?d3 ?d4 ?_)
  case d2 => rw [hy2]; omega
  case d3 => unfold maxLen; omega
  case d4 => exact Nat.le_refl _
  intro w3 hown3 hg3
  rw [toList_madeCells_one] at hown3
  have k3 : TurnIn 0 0 w2 w3 := TurnIn.of_grown hg3 (by simp)
  have hb3 : Below w.heap.size w w3 := k3.base hb2 (by omega) (by omega)
  replace hP := hP.keep k3 (by omega)
  have hs3 := k3.size
  obtain ⟨B, hB⟩ : ∃ B, B = w2.heap.size := ⟨_, rfl⟩
  rw [← hB] at hP hown3 ⊢
  rw [← hB] at hsz2 hs3
  clear hg3 hb2 k3 hB
  go_wp2_with fail
  go_loopw [9, 38] (fun _ i wr => ∃ m : Nat, m ≤ k ∧ i = .int .i64 m ∧ wr.ownsRow B 9 1 (.slice (some ⟨B, 0, none⟩) k k) k ((strs (splitL s k)).take m ++ List.replicate (k - m) (.string ⟨#[]⟩)) ∧ OwnBytes 5 wr w.heap.size B (.slice (some ⟨w.heap.size, 0, none⟩) kz kz) (padded s k) ∧ Below w.heap.size w wr)
    (fun _ i _ => k - (intOf i).toNat)
  case atStart => exact ⟨0, Nat.zero_le _, rfl, by simpa using hown3, hP, hb3⟩
  case round =>
    obtain ⟨m, hm, rfl, hown, hPw, hb⟩ := hrel
    clear hown3 hP hb3
    by_cases hlt : m < k
    · have hki : (m : Int) < (k : Int) := by omega
      have hmz1 : (m + 1) * z ≤ k * z := Nat.mul_le_mul_right _ hlt
      obtain ⟨mz, hmz⟩ : ∃ mz, mz = m * z := ⟨_, rfl⟩
      have hm1 : (m + 1) * z = mz + z := by rw [Nat.add_mul, hmz]; omega
      have q1 : (m : Int) * (z : Int) = (mz : Int) := by rw [hmz]; exact (Int.natCast_mul m z).symm
      have q2 : ((m : Int) + 1) * (z : Int) = (mz : Int) + (z : Int) := by rw [Int.add_mul, q1]; omega
      have hle : mz + z ≤ kz := by rw [hm1, ← HKZ.out] at hmz1; exact hmz1
      have HMZ := Lib.hid hmz
      clear hmz hm1 hmz1
      have hsp : splitP s k m = ((padded s k).drop mz).take z := by rw [splitP, ← HZ.out, HMZ.out]
      have hms : m < (splitL s k).length := by simpa using hlt
      have hco : wr.cell? ⟨B, m, none⟩ = some (.string ⟨#[]⟩) := by
        have ht : ((strs (splitL s k)).take m).length = m := by simp; omega
        rw [hown.cellAt m (by omega), List.getElem?_append_right (by omega), ht, Nat.sub_self, List.getElem?_replicate, if_pos (by omega)]
      have hfr := hown.frozenAt m
      have hst := hown.stored m (.string (str (splitP s k m)))
      rw [take_set_next (strs (splitL s k)) _ m _ (by rw [strs_get _ m hms]; simp [splitL]) (by simp; omega)] at hst
      have hPs : OwnBytes 5 (wr.setCell ⟨B, m, none⟩ (.string (str (splitP s k m)))) w.heap.size B (.slice (some ⟨w.heap.size, 0, none⟩) kz kz) (padded s k) := hPw.other hst.2 (fun g e => by simp [Value.ownBlock] at e ⊢; omega)
      have hbs : Below w.heap.size w (wr.setCell ⟨B, m, none⟩ (.string (str (splitP s k m)))) := hb.setCell (Nat.le_of_lt hsz2) _
      by_cases hkm2 : kz = mz
      · have hz0' : z = 0 := by omega
        have hconv := run_string_seen (P := Tryd.prog) 22 5 9 Tryd.underlying22 Tryd.underlying5 Tryd.underlying9 (seen_part0 (w := wr) (A := some ⟨w.heap.size, 0, none⟩) (c := 0) (by unfold maxLen; omega) (splitP s k m) (by rw [hsp, hz0']; simp))
        have hm0 : mz = 0 := by rw [HMZ.out, hz0']; simp
        clear hsp
        subst hz0'
        subst hm0
        subst hkm2
        go_wp2_with fail
        go_roundw
        case rel => exact ⟨m + 1, by omega, by go_num, by simpa [Nat.sub_sub] using hst.1, hPs, hbs⟩
        case measure => simp [intOf]; omega
      · have hconv := run_string_seen (P := Tryd.prog) 22 5 9 Tryd.underlying22 Tryd.underlying5 Tryd.underlying9 (seen_part hPw HPL.out (by unfold maxLen; omega) (Nat.le_refl _) hle)
        rw [← hsp] at hconv
        clear hsp
        go_wp2_with fail
        go_roundw
        case rel => exact ⟨m + 1, by omega, by go_num, by simpa [Nat.sub_sub] using hst.1, hPs, hbs⟩
        case measure => simp [intOf]; omega
    · obtain rfl : m = k := by omega
      have hki : ¬ (m : Int) < (m : Int) := by omega
      go_wp2_with fail
      go_ret2
      refine ⟨_, rfl, ?_, TurnIn.of_below hb⟩
      rw [List.take_of_length_le (by simp), Nat.sub_self] at hown
      exact ⟨by have h := own_base hown (Nat.le_of_lt hsz2); simpa using h, Nat.le_refl _, fun g e => (hown.lt g e).2⟩

set_option maxRecDepth 100000 in
set_option maxHeartbeats 2000000 in
theorem splitText_own (s : List UInt8) (k : Int) (w : World) (hn : s.length ≤ 1048576) : Calls Tryd.prog 59 #[.string (str s), .int .i64 k] w (RetStrsOk 9 w (splitR s k) (splitOk s k)) := by
  have hsz := str_size s
  by_cases h : dataOk k = true
  · have HI : Hid (dataOk k = true) := h
    have hb : 1 ≤ k ∧ k ≤ 8 := by simpa [dataOk] using h
    obtain ⟨m, rfl⟩ := Int.eq_ofNat_of_zero_le (show 0 ≤ k by omega)
    by_cases h2 : s.length ≤ m * 40
    · have HO : splitOk s m = true := by simp only [splitOk, h, Bool.true_and, decide_eq_true_eq]; omega
      have HR : splitR s m = splitL s m := by unfold splitR; rw [if_pos HO]; simp
      rw [HO, HR]
      exact splitText_yes s m w (by omega) (by omega) h2
    · have HO : Hid (splitOk s m = false) := by show splitOk s m = false; simp only [splitOk, h, Bool.true_and, decide_eq_false_iff_not]; omega
      have HR : Hid (splitR s m = []) := by show splitR s m = _; unfold splitR; rw [if_neg (by rw [HO.out]; simp)]
      have hno : (m : Int) * 40 < (s.length : Int) := by omega
      have hdc : decide ((m : Int) * 40 < (s.length : Int)) = true := by simpa using hno
      clear h h2
      go_enter Tryd.func59, Tryd.ntmps59
      go_wp2_with fail
      refine (goodDataCount_any _ _).mono ?_
      rintro e w' ⟨rfl, rfl⟩
      rw [HI.out]
      go_wp2_with fail
      go_ret2
      exact ⟨.slice none 0 0, by rw [HO.out]; rfl, by rw [HR.out]; exact OwnStrs.nil _ _ _, TurnIn.refl _⟩
  · have HI : Hid (dataOk k = false) := by show dataOk k = false; simpa using h
    have HO : Hid (splitOk s k = false) := by show splitOk s k = false; simp [splitOk, h]
    have HR : Hid (splitR s k = []) := by show splitR s k = _; unfold splitR; rw [if_neg (by rw [HO.out]; simp)]
    clear h
    go_enter Tryd.func59, Tryd.ntmps59
    go_wp2_with fail
    refine (goodDataCount_any _ _).mono ?_
    rintro e w' ⟨rfl, rfl⟩
    rw [HI.out]
    go_wp2_with fail
    go_ret2
    exact ⟨.slice none 0 0, by rw [HO.out]; rfl, by rw [HR.out]; exact OwnStrs.nil _ _ _, TurnIn.refl _⟩

end Go.Proofs.YtjklngheehhggaaDoor

/- equallyLong, l3Texts; JoinShards: the model's and the program's. -/
namespace Go.Proofs.YtjklngheehhggaaDoor
open Go.RowKit G294

set_option maxRecDepth 100000 in
set_option maxHeartbeats 2000000 in
theorem equallyLong_any (v : Value) (L : List (List UInt8)) (w : World) (hv : Seen w v (strs L)) : Calls Tryd.prog 112 #[v] w fun e w' => e = .returned (.bool (textsOk L)) ∧ w = w' := by
  obtain ⟨A, c, rfl, hlc, hcm, hx⟩ := hv
  rw [strs_length] at hlc hx
  simp only [strs_length]
  unfold maxLen at hcm
  generalize hnn : L.length = n at *
  have HN := Lib.hid hnn
  clear hnn
  go_enter Tryd.func112, Tryd.ntmps112
  go_wp2_with fail
  go_loop [7] (fun i => ∃ k : Nat, k ≤ n ∧ i = .int .i64 k ∧ Hid (∀ i (h : i < L.length), i < k → L[i].length = (L.getD 0 []).length ∧ L[i].length ≤ 40)) (fun i => n - (intOf i).toNat)
  case atStart => exact ⟨0, Nat.zero_le _, rfl, fun i h h' => by omega⟩
  case round =>
    obtain ⟨k, hk, rfl, HE⟩ := hrel
    by_cases hlt : k < n
    · have hki : (k : Int) < (n : Int) := by omega
      have hkl : k < L.length := by rw [HN.out]; exact hlt
      obtain ⟨b, off, rfl, hbl, hcell⟩ := hx (by omega)
      have hcx := hcell k _ (strs_get L k hkl)
      have hc0 := hcell 0 _ (strs_get L 0 (by omega))
      rw [Nat.add_zero] at hc0
      have hsk := str_size L[k]
      have hs0 := str_size (L[0]'(by omega))
      have HG : Hid (L.getD 0 [] = L[0]'(by omega)) := by show _ = _; simp [List.getD, show 0 < L.length by omega]
      clear hcell hx
      by_cases h40 : L[k].length ≤ 40
      · by_cases heq : L[k].length = (L[0]'(by omega)).length
        · have HK : Hid (∀ i (h : i < L.length), i < k + 1 → L[i].length = (L.getD 0 []).length ∧ L[i].length ≤ 40) := fun i h h' => by
            rcases Nat.lt_or_ge i k with h2 | h2
            · exact HE.out i h h2
            · obtain rfl : i = k := by omega
              rw [HG.out]; exact ⟨heq, h40⟩
          generalize hnk : L[k].length = nk at *
          generalize hn0 : (L[0]'(by omega)).length = n0 at *
          subst heq
          have t1 : decide ((40 : Int) < (nk : Int)) = false := by simp; omega
          have t2 : ((nk : Int) != (nk : Int)) = false := by simp
          go_wp2_with fail
          go_round
          case rel => exact ⟨k + 1, by omega, by go_num, HK⟩
          case measure => simp [intOf]; omega
        · have HF : Hid (textsOk L = false) := textsOk_false hkl (by rw [HG.out]; omega)
          generalize hnk : L[k].length = nk at *
          generalize hn0 : (L[0]'(by omega)).length = n0 at *
          have t1 : decide ((40 : Int) < (nk : Int)) = false := by simp; omega
          have t2 : ((nk : Int) != (n0 : Int)) = true := by simp; omega
          go_wp2_with fail
          go_ret
          exact ⟨by rw [HF.out]; rfl, rfl⟩
      · have HF : Hid (textsOk L = false) := textsOk_false hkl (by omega)
        generalize hnk : L[k].length = nk at *
        have t1 : decide ((40 : Int) < (nk : Int)) = true := by simp; omega
        go_wp2_with fail
        go_ret
        exact ⟨by rw [HF.out]; rfl, rfl⟩
    · obtain rfl : k = n := by omega
      have hki : ¬ (k : Int) < (k : Int) := by omega
      have HF : Hid (textsOk L = true) := (textsOk_iff L).2 fun i h => HE.out i h (by rw [HN.out] at h; exact h)
      go_wp2_with fail
      go_ret
      exact ⟨by rw [HF.out]; rfl, rfl⟩

set_option maxRecDepth 100000 in
set_option maxHeartbeats 2000000 in
theorem l3Texts_any (v : Value) (L : List (List UInt8)) (w : World) (hv : Seen w v (strs L)) : Calls Tryd.prog 141 #[v] w fun e w' => e = .returned (.bool (textsOk L)) ∧ w = w' := by
  obtain ⟨A, c, rfl, hlc, hcm, hx⟩ := hv
  rw [strs_length] at hlc hx
  simp only [strs_length]
  unfold maxLen at hcm
  generalize hnn : L.length = n at *
  have HN := Lib.hid hnn
  clear hnn
  go_enter Tryd.func141, Tryd.ntmps141
  go_wp2_with fail
  go_loop [7] (fun i => ∃ k : Nat, k ≤ n ∧ i = .int .i64 k ∧ Hid (∀ i (h : i < L.length), i < k → L[i].length = (L.getD 0 []).length ∧ L[i].length ≤ 40)) (fun i => n - (intOf i).toNat)
  case atStart => exact ⟨0, Nat.zero_le _, rfl, fun i h h' => by omega⟩
  case round =>
    obtain ⟨k, hk, rfl, HE⟩ := hrel
    by_cases hlt : k < n
    · have hki : (k : Int) < (n : Int) := by omega
      have hkl : k < L.length := by rw [HN.out]; exact hlt
      obtain ⟨b, off, rfl, hbl, hcell⟩ := hx (by omega)
      have hcx := hcell k _ (strs_get L k hkl)
      have hc0 := hcell 0 _ (strs_get L 0 (by omega))
      rw [Nat.add_zero] at hc0
      have hsk := str_size L[k]
      have hs0 := str_size (L[0]'(by omega))
      have HG : Hid (L.getD 0 [] = L[0]'(by omega)) := by show _ = _; simp [List.getD, show 0 < L.length by omega]
      clear hcell hx
      by_cases heq : L[k].length = (L[0]'(by omega)).length
      · by_cases h40 : L[k].length ≤ 40
        · have HK : Hid (∀ i (h : i < L.length), i < k + 1 → L[i].length = (L.getD 0 []).length ∧ L[i].length ≤ 40) := fun i h h' => by
            rcases Nat.lt_or_ge i k with h2 | h2
            · exact HE.out i h h2
            · obtain rfl : i = k := by omega
              rw [HG.out]; exact ⟨heq, h40⟩
          generalize hnk : L[k].length = nk at *
          generalize hn0 : (L[0]'(by omega)).length = n0 at *
          subst heq
          have t1 : decide ((40 : Int) < (nk : Int)) = false := by simp; omega
          have t2 : ((nk : Int) != (nk : Int)) = false := by simp
          go_wp2_with fail
          go_round
          case rel => exact ⟨k + 1, by omega, by go_num, HK⟩
          case measure => simp [intOf]; omega
        · have HF : Hid (textsOk L = false) := textsOk_false hkl (by omega)
          generalize hnk : L[k].length = nk at *
          generalize hn0 : (L[0]'(by omega)).length = n0 at *
          subst heq
          have t1 : decide ((40 : Int) < (nk : Int)) = true := by simp; omega
          have t2 : ((nk : Int) != (nk : Int)) = false := by simp
          go_wp2_with fail
          go_ret
          exact ⟨by rw [HF.out]; rfl, rfl⟩
      · have HF : Hid (textsOk L = false) := textsOk_false hkl (by rw [HG.out]; omega)
        generalize hnk : L[k].length = nk at *
        generalize hn0 : (L[0]'(by omega)).length = n0 at *
        have t2 : ((nk : Int) != (n0 : Int)) = true := by simp; omega
        go_wp2_with fail
        go_ret
        exact ⟨by rw [HF.out]; rfl, rfl⟩
    · obtain rfl : k = n := by omega
      have hki : ¬ (k : Int) < (k : Int) := by omega
      have HF : Hid (textsOk L = true) := (textsOk_iff L).2 fun i h => HE.out i h (by rw [HN.out] at h; exact h)
      go_wp2_with fail
      go_ret
      exact ⟨by rw [HF.out]; rfl, rfl⟩

end Go.Proofs.YtjklngheehhggaaDoor

/- slices.Concat of two lists of texts. -/
namespace Go.Proofs.YtjklngheehhggaaDoor
open Go.RowKit G294

set_option maxRecDepth 100000 in
set_option maxHeartbeats 2000000 in
theorem growS_own (n : Nat) (w : World) (h1 : 1 ≤ n) (h2 : n ≤ 100000) : Calls Tryd.prog 163 #[.slice none 0 0, .int .i64 n] w (RetStrs 9 w []) := by
  obtain ⟨i0, hi, hz0, hz1, hz2⟩ := info_parts infoStr
  have hap := Lib.run_append_nil_zeros (P := Tryd.prog) w 23 3 23 9 i0 (.string ⟨#[]⟩) .i64 .i64 Tryd.underlying23 Tryd.underlying3 hi hz0 n (by omega) (by omega) (by omega) (by rw [hz2]; omega)
  have hcg := grownCap_ge w n 0 9
  have hcm := grownCap_le_maxLen w n 0 9 (by unfold maxLen; omega)
  generalize grownCap w n 0 9 = cp at *
  have hcsz : (Builtin.zeroCells (Value.string ⟨#[]⟩).cells n ++ Builtin.zeroCells (Value.string ⟨#[]⟩).cells (cp - n)).size = cp := by
    simp [Builtin.zeroCells, Value.cells]; omega
  generalize (Builtin.zeroCells (Value.string ⟨#[]⟩).cells n ++ Builtin.zeroCells (Value.string ⟨#[]⟩).cells (cp - n)) = cur at *
  have HCS := Lib.hid hcsz
  have HCM := Lib.hid hcm
  clear hcsz
  unfold maxLen at hcm
  have hn0 : ¬ (n : Int) < 0 := by omega
  have hn1 : (0 : Int) < (n : Int) := by omega
  go_enter Tryd.func163, Tryd.ntmps163
  go_wp2_with (at_builtin; refine Lib.wpList_append_run _ rfl _ _ _ _ rfl _ _ rfl rfl _ _ hap ?_)
  go_wp2_with fail
  go_ret
  refine ⟨_, rfl, OwnStrs.of_made ?_, TurnIn.of_below ?_⟩
  · refine ⟨by simp [strs], .inr ⟨w.heap.size, cp, cur, rfl, Nat.le_refl _, by first | exact heap_alloc_new w.drew _ | exact heap_alloc_new w _, Nat.zero_le _, HCM.out, by rw [HCS.out]; omega, by simp [strs]⟩⟩
  · exact (Below.refl _ _).drew.alloc (Nat.le_refl _) _

set_option maxRecDepth 100000 in
set_option maxHeartbeats 4000000 in
theorem concat_own (va vb : Value) (L M : List (List UInt8)) (B : Nat) (w : World) (hB : B < w.heap.size) (c0 : w.cell? ⟨B, 0, none⟩ = some va) (c1 : w.cell? ⟨B, 1, none⟩ = some vb) (ha : Seen w va (strs L)) (hb' : Seen w vb (strs M))
    (hl1 : 1 ≤ L.length) (hl2 : L.length ≤ 1000) (hm1 : 1 ≤ M.length) (hm2 : M.length ≤ 1000) :
    Calls Tryd.prog 98 #[.slice (some ⟨B, 0, none⟩) 2 2] w (RetStrs 9 w (L ++ M)) := by
  obtain ⟨A, c, rfl, hlc, hcm, hx⟩ := ha
  obtain ⟨A', c', rfl, hlc', hcm', hx'⟩ := hb'
  rw [strs_length] at hlc hx hlc' hx' c0 c1
  unfold maxLen at hcm hcm'
  obtain ⟨b, off, rfl, hbl, hcell⟩ := hx (by omega)
  obtain ⟨b', off', rfl, hbl', hcell'⟩ := hx' (by omega)
  have HC0 := Lib.hid hcell
  have HC1 := Lib.hid hcell'
  clear hcell hcell' hx hx'
  generalize hnn : L.length = n at *
  generalize hmm : M.length = m at *
  have HN : Hid ((strs L).length = n) := by show (strs L).length = n; simpa using hnn
  have HM : Hid ((strs M).length = m) := by show (strs M).length = m; simpa using hmm
  have HNM : Hid ((L ++ M).length = n + m) := by show (L ++ M).length = n + m; simp [hnn, hmm]
  have HA : Hid (strs (L ++ M) = strs L ++ strs M) := strs_append L M
  clear hnn hmm
  have hs1 : IntKind.i64.wrap ((n : Int) + (m : Int)) = ((n + m : Nat) : Int) := by rw [IntWalk.i64_in _ (by omega)]; omega
  have hs0 : IntKind.i64.wrap (0 + (n : Int)) = (n : Int) := by rw [IntWalk.i64_in _ (by omega)]; omega
  have hp0 : ¬ (n : Int) < 0 := by omega
  have hp1 : ¬ ((n + m : Nat) : Int) < 0 := by omega
  obtain ⟨s, hs⟩ : ∃ s, s = n + m := ⟨_, rfl⟩
  rw [← hs] at hs1 hp1
  have HS := Lib.hid hs
  clear hs
  go_enter Tryd.func98, Tryd.ntmps98
  go_wp2_with fail
  go_loop [3, 11] (fun z i => (i = .int .i64 0 ∧ z = .int .i64 0) ∨ (i = .int .i64 1 ∧ z = .int .i64 n) ∨ (i = .int .i64 2 ∧ z = .int .i64 s)) (fun _ i => 2 - (intOf i).toNat)
  case atStart => exact .inl ⟨rfl, rfl⟩
  case round =>
    rcases hrel with ⟨rfl, rfl⟩ | ⟨rfl, rfl⟩ | ⟨rfl, rfl⟩
    · go_wp2_with fail
      go_round
      case rel => exact .inr (.inl ⟨by go_num, by first | rfl | go_num⟩)
      case measure => simp [intOf]
    · go_wp2_with fail
      go_round
      case rel => exact .inr (.inr ⟨by go_num, by first | rfl | go_num⟩)
      case measure => simp [intOf]
    · go_wp2_with fail
      refine (growS_own s _ (by rw [HS.out]; omega) (by rw [HS.out]; omega)).mono ?_
      rintro e w1 ⟨v1, rfl, ho1, k1⟩
      have HO1 := Lib.hid ho1.1
      have hb1 := k1.to_below
      clear ho1 k1
      go_wp2_with fail
      go_loopw [6, 27] (fun o i wr => ((i = .int .i64 0 ∧ wr.ownsRow w.heap.size 9 1 o 0 []) ∨ (i = .int .i64 1 ∧ wr.ownsRow w.heap.size 9 1 o n (strs L)) ∨ (i = .int .i64 2 ∧ wr.ownsRow w.heap.size 9 1 o (n + m) (strs L ++ strs M))) ∧ Below w.heap.size w wr) (fun _ i _ => 2 - (intOf i).toNat)
      case atStart => exact ⟨.inl ⟨rfl, HO1.out⟩, hb1⟩
      case round =>
        obtain ⟨hd, hb⟩ := hrel
        clear hb1 HO1
        have d0 := (hb.cell (p := ⟨B, 0, none⟩) hB).trans c0
        have d1 := (hb.cell (p := ⟨B, 1, none⟩) hB).trans c1
        rcases hd with ⟨rfl, hown⟩ | ⟨rfl, hown⟩ | ⟨rfl, hown⟩
        · have hys : ∀ j y, (strs L)[j]? = some y → wr.cell? ((⟨b, off, none⟩ : Addr).add j) = some y := fun j y hj => by rw [Addr.add_lit]; exact (hb.cell (p := ⟨b, off + j, none⟩) hbl).trans (HC0.out j y hj)
          have HYS := Lib.hid hys
          have HOW := Lib.hid hown
          have hsz := hb.size
          have hob : ∀ g, u6.ownBlock = some g → w.heap.size ≤ g := fun g e => (hown.lt g e).1
          have HOB := Lib.hid hob
          clear hys hob hown
          go_wp2_with (at_builtin; refine wpList_appendN rfl _ _ _ rfl w.heap.size 9 _ _ Tryd.underlying23 infoStr rfl _ 0 [] rfl HOW.out ⟨b, off, none⟩ n c (strs L) rfl HN.out HYS.out (strs_oneC _) ?c1 ?c2 ?c3 ?_)
          case c1 => omega
          case c2 => omega
          case c3 => exact hsz
          intro v2 w2 ho2 hg2 hv2
          have hb2 : Below w.heap.size w w2 := hb.grown hg2 hsz (fun g e => HOB.out g e)
          have HO2 : Hid (w2.ownsRow w.heap.size 9 1 v2 n (strs L)) := Lib.hid (by simpa using ho2)
          clear ho2 hg2
          go_wp2_with fail
          go_roundw
          case rel => exact ⟨.inr (.inl ⟨by go_num, HO2.out⟩), hb2⟩
          case measure => simp [intOf]
        · have hys : ∀ j y, (strs M)[j]? = some y → wr.cell? ((⟨b', off', none⟩ : Addr).add j) = some y := fun j y hj => by rw [Addr.add_lit]; exact (hb.cell (p := ⟨b', off' + j, none⟩) hbl').trans (HC1.out j y hj)
          have HYS := Lib.hid hys
          have HOW := Lib.hid hown
          have hsz := hb.size
          have hob : ∀ g, u6.ownBlock = some g → w.heap.size ≤ g := fun g e => (hown.lt g e).1
          have HOB := Lib.hid hob
          clear hys hob hown
          go_wp2_with (at_builtin; refine wpList_appendN rfl _ _ _ rfl w.heap.size 9 _ _ Tryd.underlying23 infoStr rfl _ n (strs L) rfl HOW.out ⟨b', off', none⟩ m c' (strs M) rfl HM.out HYS.out (strs_oneC _) ?c1 ?c2 ?c3 ?_)
          case c1 => omega
          case c2 => omega
          case c3 => exact hsz
          intro v2 w2 ho2 hg2 hv2
          have hb2 : Below w.heap.size w w2 := hb.grown hg2 hsz (fun g e => HOB.out g e)
          have HO2 := Lib.hid ho2
          clear ho2 hg2
          go_wp2_with fail
          go_roundw
          case rel => exact ⟨.inr (.inr ⟨by go_num, HO2.out⟩), hb2⟩
          case measure => simp [intOf]
        · have HOW := Lib.hid hown
          clear hown
          go_wp2_with fail
          go_ret
          refine ⟨_, rfl, OwnStrs.of_made ?_, TurnIn.of_below hb⟩
          rw [HNM.out, HA.out]; exact HOW.out

end Go.Proofs.YtjklngheehhggaaDoor
