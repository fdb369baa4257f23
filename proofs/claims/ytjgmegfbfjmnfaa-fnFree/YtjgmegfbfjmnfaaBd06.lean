/- Joined texts: VitE4, PathMem, VitB, TailHeld, Grew, VitQ. -/
import Derived.Test.YtjgmegfbfjmnfaaBd05
import Derived.Test.YtjgmegfbfjmnfaaBd00
import Derived.OrdersHeld
import Derived.StillTail
import Derived.Deep.RegionHeld
import Derived.Test.YtjgmegfbfjmnfaaBd01
import Derived.Deep.QuietTactic
import Derived.Deep.RegionHeld3
import Derived.Deep.CutRange
import Derived.Laws.StructEq
import Derived.Shelf.SlicesE.Kit
set_option linter.unusedSimpArgs false
set_option linter.unusedVariables false
/- Chapter 10: differences, distances, costs, flipped bits: the program's. -/
namespace Go.Proofs.Ytjgmegfbfjmnfaa
open Go.RowKit G294

set_option maxHeartbeats 1000000 in
theorem differences_own (v u : Value) (a b : List UInt8) (w : World) (hv : Seen w v (bys a)) (hu : Seen w u (bys b)) (hl : a.length = b.length) (hn : a.length ≤ 1000000) : Calls Try.prog 56 #[v, u] w (RetInt w (dl a b : Nat)) := by
  obtain ⟨A, c, rfl, hlc, hcm, hx⟩ := hv
  obtain ⟨A', c', rfl, hlc', hcm', hx'⟩ := hu
  rw [bys_length] at hlc hx hlc' hx'
  simp only [bys_length]
  unfold maxLen at hcm hcm'
  have HS : Hid (∀ k, k < a.length → a.getD k 0 = b.getD k 0 → dl (a.take (k + 1)) (b.take (k + 1)) = dl (a.take k) (b.take k)) := fun k hk h => dl_take_same hk (by omega) h
  have HM : Hid (∀ k, k < a.length → a.getD k 0 ≠ b.getD k 0 → dl (a.take (k + 1)) (b.take (k + 1)) = dl (a.take k) (b.take k) + 1) := fun k hk h => dl_take_more hk (by omega) h
  have HL : Hid (∀ k, dl (a.take k) (b.take k) ≤ k) := fun k => Nat.le_trans dl_le (by rw [List.length_take]; omega)
  have HF : Hid (dl (a.take a.length) (b.take a.length) = dl a b) := by show _ = _; rw [List.take_length, hl, List.take_length]
  have HC1 : Hid (∀ k, k < a.length → (bys a)[k]? = some (.int .u8 ((a.getD k 0).toNat : Int))) := fun k hk => by rw [bys_get a k hk, getD_len hk]
  have HC2 : Hid (∀ k, k < b.length → (bys b)[k]? = some (.int .u8 ((b.getD k 0).toNat : Int))) := fun k hk => by rw [bys_get b k hk, getD_len hk]
  obtain ⟨D, hD⟩ : ∃ D, D = fun k => dl (a.take k) (b.take k) := ⟨_, rfl⟩
  have HD : Hid (∀ k, dl (a.take k) (b.take k) = D k) := fun k => by rw [hD]
  have HD0 : Hid (D 0 = 0) := by show _ = _; rw [hD]; rfl
  simp only [HD.out] at HS HM HL HF
  rw [← HF.out]
  rw [← hl] at hx' HC2 hlc' ⊢
  generalize hnn : a.length = n at *
  have HX := Lib.hid hx
  have HX' := Lib.hid hx'
  clear hD HD HF hl hnn hx hx'
  go_enter Try.func56, Try.ntmps56
  go_wp2_with fail
  go_loopw [5, 9] (fun d i wr => ∃ k : Nat, k ≤ n ∧ i = .int .i64 k ∧ d = .int .i64 (D k : Nat) ∧ Below w.heap.size w wr) (fun _ i _ => n - (intOf i).toNat)
  case atStart => exact ⟨0, Nat.zero_le _, rfl, by rw [HD0.out]; rfl, Below.refl _ _⟩
  case round =>
    obtain ⟨k, hk, rfl, rfl, hb⟩ := hrel
    by_cases hlt : k < n
    · obtain ⟨p, off, rfl, hbl, hcell⟩ := HX.out (by omega)
      obtain ⟨p', off', rfl, hbl', hcell'⟩ := HX'.out (by omega)
      have hcx := (hb.cell (p := ⟨p, off + k, none⟩) hbl).trans (hcell k _ (HC1.out k hlt))
      have hcy := (hb.cell (p := ⟨p', off' + k, none⟩) hbl').trans (hcell' k _ (HC2.out k hlt))
      have hki : (k : Int) < (n : Int) := by omega
      have hL := HL.out k
      have HS2 := Lib.hid (HS.out k hlt)
      have HM2 := Lib.hid (HM.out k hlt)
      clear hcell hcell'
      generalize a.getD k 0 = x at *
      generalize b.getD k 0 = y at *
      by_cases hz : x = y
      · have hbb := bne_byte (x := x) (y := y) false (by simp [hz])
        have HK := Lib.hid (HS2.out hz)
        clear hz HS2 HM2
        generalize D k = z at *
        go_wp2_with fail
        go_quiet (fail)
        go_wp2_with fail
        go_roundw
        case rel => exact ⟨k + 1, by omega, by go_num, by rw [HK.out], below_drewN hb _⟩
        case measure => simp [intOf]; omega
      · have hbb := bne_byte (x := x) (y := y) true (by simpa using hz)
        have HK := Lib.hid (HM2.out hz)
        clear hz HS2 HM2
        generalize D k = z at *
        go_wp2_with fail
        go_quiet (fail)
        go_wp2_with fail
        go_roundw
        case rel => exact ⟨k + 1, by omega, by go_num, by rw [HK.out]; go_num, below_drewN hb _⟩
        case measure => simp [intOf]; omega
    · obtain rfl : k = n := by omega
      have hki : ¬ (k : Int) < (k : Int) := by omega
      go_wp2_with fail
      go_ret
      exact ⟨rfl, TurnIn.of_below hb⟩

set_option maxHeartbeats 1000000 in
theorem distanceBits_own (a b : List UInt8) (w : World) (ha : a.length ≤ 1000000000000) (hb : b.length ≤ 1000000000000) : Calls Try.prog 23 #[.string (str a), .string (str b)] w (RetIntB w (dstR a b) (dstOk a b)) := by
  have HD : Hid (dstOk a b = (bitsOk a 96 && (bitsOk b 96 && decide (a.length = b.length)))) := Lib.hid rfl
  have HNO : Hid (dstOk a b = false → dstR a b = 0) := dstR_no
  have HYES : Hid (dstOk a b = true → dstR a b = (dl a b : Int)) := dstR_yes
  have HA := Lib.hid (fun W => parsedBits_own a 96 W (by omega) ha)
  have HB := Lib.hid (fun W => parsedBits_own b 96 W (by omega) hb)
  have HAL : Hid (bitsOk a 96 = true → a.length ≤ 96) := fun h => (bitsOk_b h).1
  by_cases h1 : bitsOk a 96 = true
  · have H1 := Lib.hid h1
    have HPA := Lib.hid (prsR_yes h1)
    by_cases h2 : bitsOk b 96 = true
    · have H2 := Lib.hid h2
      have HPB := Lib.hid (prsR_yes h2)
      by_cases h3 : a.length = b.length
      · have HO : Hid (dstOk a b = true) := by show _ = _; rw [HD.out, h1, h2]; simpa using h3
        have HR := Lib.hid (HYES.out HO.out)
        have HU := Lib.hid (fun W v u (h : Seen W v (bys (raw a))) (h' : Seen W u (bys (raw b))) => differences_own v u (raw a) (raw b) W h h' (by simpa using h3) (by have := HAL.out h1; simp; omega))
        have HDL := Lib.hid (raw_dl a b)
        have hl1 : (raw a).length = a.length := raw_len a
        have hl2 : (raw b).length = a.length := by rw [raw_len, h3]
        have h3b : ((a.length : Int) != (a.length : Int)) = false := by simp
        rw [HDL.out] at HU
        clear h1 h2 h3
        generalize a.length = n at *
        go_enter Try.func23, Try.ntmps23
        go_wp2_with fail
        refine (HA.out _).mono ?_
        rintro e w1 ⟨v1, rfl, o1, k1⟩
        rw [H1.out]
        rw [HPA.out] at o1
        obtain ⟨A1, c1, hv1⟩ := own_slice o1.1
        rw [hl1] at hv1
        subst hv1
        have HO1 := Lib.hid o1
        clear o1
        go_wp2_with fail
        refine (HB.out _).mono ?_
        rintro e w2 ⟨v2, rfl, o2, k2⟩
        rw [H2.out]
        rw [HPB.out] at o2
        obtain ⟨A2, c2, hv2⟩ := own_slice o2.1
        rw [hl2] at hv2
        subst hv2
        have HU2 := Lib.hid (HU.out w2 _ _ (HO1.out.keep k2 (by omega)).seen o2.seen)
        clear o2
        go_wp2_with fail
        refine HU2.out.mono ?_
        rintro e w3 ⟨rfl, k3⟩
        go_wp2_with fail
        go_ret2
        exact ⟨by rw [HR.out, HO.out]; rfl, turn_trans (turn_trans k1 k2 (by omega)) k3 (by omega)⟩
      · have HO : Hid (dstOk a b = false) := by show _ = _; rw [HD.out]; simp [h3]
        have HR := Lib.hid (HNO.out HO.out)
        have hl1 : (raw a).length = a.length := raw_len a
        have hl2 : (raw b).length = b.length := raw_len b
        have h3b : ((a.length : Int) != (b.length : Int)) = true := by rw [bne_iff_ne]; omega
        clear h1 h2 h3
        generalize a.length = n at *
        generalize b.length = m at *
        go_enter Try.func23, Try.ntmps23
        go_wp2_with fail
        refine (HA.out _).mono ?_
        rintro e w1 ⟨v1, rfl, o1, k1⟩
        rw [H1.out]
        rw [HPA.out] at o1
        obtain ⟨A1, c1, hv1⟩ := own_slice o1.1
        rw [hl1] at hv1
        subst hv1
        clear o1
        go_wp2_with fail
        refine (HB.out _).mono ?_
        rintro e w2 ⟨v2, rfl, o2, k2⟩
        rw [H2.out]
        rw [HPB.out] at o2
        obtain ⟨A2, c2, hv2⟩ := own_slice o2.1
        rw [hl2] at hv2
        subst hv2
        clear o2
        go_wp2_with fail
        go_ret2
        exact ⟨by rw [HR.out, HO.out]; rfl, turn_trans k1 k2 (by omega)⟩
    · have H2 : Hid (bitsOk b 96 = false) := by show bitsOk b 96 = false; simpa using h2
      have HO : Hid (dstOk a b = false) := by show _ = _; rw [HD.out, H2.out]; simp
      have HR := Lib.hid (HNO.out HO.out)
      clear h1 h2
      go_enter Try.func23, Try.ntmps23
      go_wp2_with fail
      refine (HA.out _).mono ?_
      rintro e w1 ⟨v1, rfl, o1, k1⟩
      rw [H1.out]
      go_wp2_with fail
      refine (HB.out _).mono ?_
      rintro e w2 ⟨v2, rfl, o2, k2⟩
      rw [H2.out]
      go_wp2_with fail
      go_ret2
      exact ⟨by rw [HR.out, HO.out]; rfl, turn_trans k1 k2 (by omega)⟩
  · have H1 : Hid (bitsOk a 96 = false) := by show bitsOk a 96 = false; simpa using h1
    have HO : Hid (dstOk a b = false) := by show _ = _; rw [HD.out, H1.out]; rfl
    have HR := Lib.hid (HNO.out HO.out)
    clear h1
    go_enter Try.func23, Try.ntmps23
    go_wp2_with fail
    refine (HA.out _).mono ?_
    rintro e w1 ⟨v1, rfl, o1, k1⟩
    rw [H1.out]
    go_wp2_with fail
    go_ret2
    exact ⟨by rw [HR.out, HO.out]; rfl, k1⟩

set_option maxHeartbeats 1000000 in
theorem costOf_own (a b : List UInt8) (w : World) (ha : a.length ≤ 1000000000000) (hb : b.length ≤ 1000000000000) : Calls Try.prog 18 #[.string (str a), .string (str b)] w (RetIntB w (cosR a b) (cosOk a b)) := by
  have HE := Lib.hid (encodeBits_own a w ha)
  by_cases h1 : encOk10 a = true
  · have H1 := Lib.hid h1
    have hel := encR10_len h1
    have hal := (bitsOk_b h1).1
    have HD := Lib.hid (fun W => distanceBits_own (encR10 a) b W (by omega) hb)
    have HO : Hid (dstOk (encR10 a) b = cosOk a b) := by show _ = _; unfold cosOk; rw [h1]; rfl
    have HR : Hid (dstR (encR10 a) b = cosR a b) := by show _ = _; unfold dstR cosR; rw [HO.out]
    clear h1 hel hal
    go_enter Try.func18, Try.ntmps18
    go_wp2_with fail
    refine HE.out.mono ?_
    rintro e w1 ⟨rfl, k1⟩
    rw [H1.out]
    go_wp2_with fail
    refine (HD.out _).mono ?_
    rintro e w2 ⟨rfl, k2⟩
    rw [HO.out, HR.out]
    go_wp2_with fail
    go_ret2
    exact ⟨rfl, turn_trans k1 k2 (by omega)⟩
  · have H1 : Hid (encOk10 a = false) := by show encOk10 a = false; simpa using h1
    have HO : Hid (cosOk a b = false) := by show _ = _; unfold cosOk; rw [H1.out]; rfl
    have HR := Lib.hid (cosR_no HO.out)
    clear h1
    go_enter Try.func18, Try.ntmps18
    go_wp2_with fail
    refine HE.out.mono ?_
    rintro e w1 ⟨rfl, k1⟩
    rw [H1.out]
    go_wp2_with fail
    go_ret2
    exact ⟨by rw [HR.out, HO.out]; rfl, k1⟩

end Go.Proofs.Ytjgmegfbfjmnfaa

/- Paths in memory: a slice of structs of a string and an int that is seen, or of the call's own; what a mark writes. -/
namespace G294
open Go Go.RowKit
/-- paths as the cells of memory -/
def pts : List Pt → List Value
  | [] => []
  | s :: l => .string (str s.1) :: .int .i64 s.2 :: pts l
@[simp] theorem pts_length (l : List Pt) : (pts l).length = l.length * 2 := by
  induction l with
  | nil => rfl
  | cons s l ih => simp [pts, ih]; omega
theorem pts_append (l m : List Pt) : pts (l ++ m) = pts l ++ pts m := by
  induction l with
  | nil => rfl
  | cons s l ih => simp [pts, ih]
theorem pts_bits (l : List Pt) (i : Nat) (h : i < l.length) : (pts l)[i * 2]? = some (.string (str l[i].1)) := by
  induction l generalizing i with
  | nil => simp at h
  | cons s l ih =>
    cases i with
    | zero => rfl
    | succ i => rw [show (i + 1) * 2 = i * 2 + 1 + 1 by omega]; simpa [pts] using ih i (by simpa using h)
theorem pts_cost (l : List Pt) (i : Nat) (h : i < l.length) : (pts l)[i * 2 + 1]? = some (.int .i64 l[i].2) := by
  induction l generalizing i with
  | nil => simp at h
  | cons s l ih =>
    cases i with
    | zero => rfl
    | succ i => rw [show (i + 1) * 2 + 1 = i * 2 + 1 + 1 + 1 by omega]; simpa [pts] using ih i (by simpa using h)
theorem pts_oneC (l : List Pt) : ∀ y, y ∈ pts l → y.oneCell' = true := by
  induction l with
  | nil => intro y hy; simp [pts] at hy
  | cons s l ih =>
    intro y hy
    simp only [pts, List.mem_cons] at hy
    rcases hy with rfl | rfl | hy
    · rfl
    · rfl
    · exact ih y hy
theorem pts_set (l : List Pt) (i : Nat) (x : Pt) (h : i < l.length) : ((pts l).set (i * 2) (.string (str x.1))).set (i * 2 + 1) (.int .i64 x.2) = pts (l.set i x) := by
  induction l generalizing i with
  | nil => simp at h
  | cons s l ih =>
    cases i with
    | zero => rfl
    | succ i =>
      rw [show (i + 1) * 2 = i * 2 + 1 + 1 by omega]
      simp only [pts, List.set_cons_succ, ih i (by simpa using h)]
/-- the value v is seen in w as the paths l -/
def SeenP (w : World) (v : Value) (l : List Pt) : Prop :=
  ∃ A c, v = .slice A l.length c ∧ l.length ≤ c ∧ c ≤ maxLen ∧ (0 < l.length → ∃ b off, A = some ⟨b, off, none⟩ ∧ b < w.heap.size ∧ ∀ i s, l[i]? = some s → w.cell? ⟨b, off + i * 2, none⟩ = some (.string (str s.1)) ∧ w.cell? ⟨b, off + i * 2 + 1, none⟩ = some (.int .i64 s.2))
/-- a row of paths of the call's own, its block from lo to hi -/
def OwnP (E : TypeId) (w : World) (lo hi : Nat) (v : Value) (l : List Pt) : Prop := w.ownsRow lo E 2 v l.length (pts l) ∧ hi ≤ w.heap.size ∧ ∀ g, v.ownBlock = some g → g < hi
section
variable {w w' : World} {lo hi a b : Nat} {v : Value} {l : List Pt} {E : TypeId}
theorem SeenP.below (h : SeenP w v l) (hb : Below w.heap.size w w') : SeenP w' v l := by
  obtain ⟨A, c, rfl, h1, h2, h3⟩ := h
  refine ⟨A, c, rfl, h1, h2, fun hn => ?_⟩
  obtain ⟨b, off, rfl, hb', hc⟩ := h3 hn
  exact ⟨b, off, rfl, Nat.lt_of_lt_of_le hb' hb.size, fun i s hi => ⟨(hb.cell (p := ⟨b, off + i * 2, none⟩) hb').trans (hc i s hi).1, (hb.cell (p := ⟨b, off + i * 2 + 1, none⟩) hb').trans (hc i s hi).2⟩⟩
theorem SeenP.len (h : SeenP w v l) : ∃ A c, v = .slice A l.length c := by
  obtain ⟨A, c, h, _⟩ := h
  exact ⟨A, c, h⟩
theorem SeenP.nil (w : World) : SeenP w (.slice none 0 0) [] := ⟨none, 0, rfl, Nat.le_refl _, Nat.zero_le _, fun h => by simp at h⟩
theorem OwnP.keep (h : OwnP E w lo hi v l) (t : TurnIn a b w w') (d : hi ≤ a ∨ b ≤ lo) : OwnP E w' lo hi v l :=
  ⟨owns_turn2 h.1 h.2.2 t d, Nat.le_trans h.2.1 t.size, h.2.2⟩
theorem OwnP.seen (h : OwnP E w lo hi v l) : SeenP w v l := by
  obtain ⟨h1, h2, h3⟩ := h
  rcases h1.2 with ⟨rfl, hn⟩ | ⟨g, cap, cur, rfl, hb, hg, hnc, hcm, hcs, ht⟩
  · have : l = [] := List.eq_nil_of_length_eq_zero hn
    subst this
    exact SeenP.nil w
  · refine ⟨_, cap, rfl, hnc, hcm, fun hn => ⟨g, 0, rfl, (Array.getElem?_eq_some_iff.1 hg).1, fun i s hs => ?_⟩⟩
    obtain ⟨hi, rfl⟩ := List.getElem?_eq_some_iff.1 hs
    have e1 := h1.cells (g := g) rfl (i * 2) _ (pts_bits l i hi)
    have e2 := h1.cells (g := g) rfl (i * 2 + 1) _ (pts_cost l i hi)
    rw [Addr.add_lit, Nat.zero_add] at e1 e2
    exact ⟨by rw [Nat.zero_add]; exact e1, by rw [Nat.zero_add]; exact e2⟩
theorem OwnP.nil (E : TypeId) (w : World) (lo : Nat) : OwnP E w lo w.heap.size (.slice none 0 0) [] := ⟨World.ownsRow_nil _ _ _ _, Nat.le_refl _, fun g h => by simp [Value.ownBlock] at h⟩
theorem OwnP.of_made (h : w'.ownsRow w.heap.size E 2 v l.length (pts l)) : OwnP E w' w.heap.size w'.heap.size v l := ⟨h, Nat.le_refl _, fun g hg => (h.lt g hg).2⟩
end
def RetPts (E : TypeId) (w : World) (l : List Pt) (e : Ending) (w' : World) : Prop := ∃ v, e = .returned v ∧ OwnP E w' w.heap.size w'.heap.size v l ∧ TurnIn 0 0 w w'
def RetPtsOk (E : TypeId) (w : World) (l : List Pt) (ok : Bool) (e : Ending) (w' : World) : Prop := ∃ v, e = .returned (.tuple #[v, .bool ok]) ∧ OwnP E w' w.heap.size w'.heap.size v l ∧ TurnIn 0 0 w w'
/-- the paths that marks write -/
def marksQ (k n : Nat) : List Pt := (List.range n).map fun i => (mtext (k + i * 2), ((k + i * 2 + 1 : Nat) : Int))
@[simp] theorem marksQ_length (k n : Nat) : (marksQ k n).length = n := by simp [marksQ]
theorem marksQ_get (k n i : Nat) (h : i < (marksQ k n).length) : (marksQ k n)[i] = (mtext (k + i * 2), ((k + i * 2 + 1 : Nat) : Int)) := by simp [marksQ]
def RetMarkQ (E : TypeId) (w : World) (lo hi : Nat) (v : Value) (k n : Nat) (e : Ending) (w' : World) : Prop :=
  e = .returned (.int .i64 ((k + n * 2 : Nat) : Int)) ∧ OwnP E w' lo hi v (marksQ k n) ∧ TurnIn lo hi w w'
end G294

/- Chapter 10: which of two paths is better: the program's and the model's. -/
namespace G294
open Go Go.RowKit
def ltP (a b : Pt) : Bool := decide (a.2 < b.2) || (decide (a.2 = b.2) && Op.bytesLess a.1 b.1)
theorem betterP_lt {a b : Pt} (h : ¬ b.2 < 0) : betterP a b = ltP a b := by simp [betterP, ltP, h]
theorem betterP_neg {a b : Pt} (h : b.2 < 0) : betterP a b = true := by simp [betterP, h]
def ptV (p : Pt) : Value := .agg #[.string (str p.1), .int .i64 p.2]
end G294
namespace Go.Proofs.Ytjgmegfbfjmnfaa
open Go.RowKit G294

set_option maxHeartbeats 1000000 in
theorem betterPath_own (a b : Pt) (w : World) : Calls Try.prog 71 #[.agg #[.string (str a.1), .int .i64 a.2], .agg #[.string (str b.1), .int .i64 b.2]] w (RetBool w (ltP a b)) := by
  obtain ⟨s, x⟩ := a
  obtain ⟨t, y⟩ := b
  have HT := Lib.hid (turn_trans (turn_alloc w (.cells #[.string (str s), .int .i64 x] 25)) (turn_alloc _ (.cells #[.string (str t), .int .i64 y] 25)) (by omega))
  have e1 := str_toList s
  have e2 := str_toList t
  by_cases h : x = y
  · subst h
    have hb : ((x : Int) != x) = false := by simp
    have HV : Hid (ltP (s, x) (t, x) = Op.bytesLess s t) := by show _ = _; simp [ltP]
    rw [HV.out]
    clear HV
    go_enter Try.func71, Try.ntmps71
    go_wp2_with fail
    go_ret
    exact ⟨by first | rfl | simp [e1, e2], HT.out⟩
  · have hb : (x != y) = true := by rw [bne_iff_ne]; exact h
    have HV : Hid (ltP (s, x) (t, y) = decide (x < y)) := by show _ = _; simp [ltP, h]
    rw [HV.out]
    clear HV
    go_enter Try.func71, Try.ntmps71
    go_wp2_with fail
    go_ret
    exact ⟨by first | rfl | simp, HT.out⟩

set_option maxHeartbeats 1000000 in
theorem l10Better_own (a b : Pt) (w : World) : Calls Try.prog 68 #[.agg #[.string (str a.1), .int .i64 a.2], .agg #[.string (str b.1), .int .i64 b.2]] w (RetBool w (betterP a b)) := by
  obtain ⟨s, x⟩ := a
  obtain ⟨t, y⟩ := b
  have HT := Lib.hid (turn_trans (turn_alloc w (.cells #[.string (str s), .int .i64 x] 25)) (turn_alloc _ (.cells #[.string (str t), .int .i64 y] 25)) (by omega))
  have e1 := str_toList s
  have e2 := str_toList t
  by_cases h0 : y < 0
  · have hd : decide (y < 0) = true := by simpa using h0
    have HV : Hid (betterP (s, x) (t, y) = true) := betterP_neg h0
    rw [HV.out]
    clear HV
    go_enter Try.func68, Try.ntmps68
    go_wp2_with fail
    go_ret
    exact ⟨by first | rfl | simp, HT.out⟩
  have hd : decide (y < 0) = false := by simpa using h0
  by_cases h1 : x < y
  · have hd1 : decide (x < y) = true := by simpa using h1
    have HV : Hid (betterP (s, x) (t, y) = true) := by show _ = _; simp [betterP, h1]
    rw [HV.out]
    clear HV
    go_enter Try.func68, Try.ntmps68
    go_wp2_with fail
    go_ret
    exact ⟨by first | rfl | simp, HT.out⟩
  have hd1 : decide (x < y) = false := by simpa using h1
  by_cases h2 : x = y
  · subst h2
    have hb : ((x : Int) == x) = true := by simp
    have HV : Hid (betterP (s, x) (t, x) = Op.bytesLess s t) := by show _ = _; simp [betterP, h0]
    rw [HV.out]
    clear HV
    go_enter Try.func68, Try.ntmps68
    go_wp2_with fail
    go_ret
    exact ⟨by first | rfl | simp [e1, e2], HT.out⟩
  · have hb : (x == y) = false := by rw [beq_eq_false_iff_ne]; exact h2
    have HV : Hid (betterP (s, x) (t, y) = false) := by show _ = _; simp [betterP, h0, h1, h2]
    rw [HV.out]
    clear HV
    go_enter Try.func68, Try.ntmps68
    go_wp2_with fail
    go_ret
    exact ⟨by first | rfl | simp, HT.out⟩

end Go.Proofs.Ytjgmegfbfjmnfaa

/- Regions that draw their order and end in one operation that waits for all others: behind it nothing is asked of the cells that the loads read. -/
namespace G294
open Go Go.RowKit
section
variable {P : Program} {md : Region.Mode} {ops : Array Oper} {Q : Exit → Act → World → Prop} {S : World → Prop} {L : Nat}
/-- whatever comes up next; behind each operation but the last, L, S holds -/
def wpAnyT (P : Program) (md : Region.Mode) (ops : Array Oper) (Q : Exit → Act → World → Prop) (S : World → Prop) (L : Nat) : Nat → Array Bool → Act → World → Prop
  | 0, listed, a, w => Region.ready md ops listed = [] ∧ Q .normal a w
  | fuel + 1, listed, a, w =>
    (Region.ready md ops listed = [] → Q .normal a w) ∧
    ∀ i ∈ Region.ready md ops listed, wpOp P ops Q i (fun a' w' => (i ≠ L → S w') ∧ wpAnyT P md ops Q S L fuel (listed.setIfInBounds i true) a' w') a w
theorem wpAny_of_T : ∀ (fuel : Nat) (listed : Array Bool) (a : Act) (w : World), wpAnyT P md ops Q S L fuel listed a w → wpAny P md ops Q fuel listed a w
  | 0, _, _, _, h => h
  | fuel + 1, _, _, _, h => ⟨h.1, fun i hi => wpOp_mono (fun a' w' h' => wpAny_of_T fuel _ a' w' h'.2) (h.2 i hi)⟩
theorem not_ready {i j : Nat} {listed : Array Bool} (hw : Region.waitsFor md ops j i = true) (hi : i ∈ Region.ready md ops listed) : j ∉ Region.ready md ops listed := fun hj => by
  obtain ⟨oj, hoj, e, he, hb, hon⟩ := Region.waitsFor_spec hw
  obtain ⟨_, oj', hoj', hall⟩ := mem_ready.1 hj
  obtain rfl : oj' = oj := Option.some.inj (hoj'.symm.trans hoj)
  have h1 := hall e he hb
  have h0 := (mem_ready.1 hi).1
  rw [hon] at h1
  rcases Nat.lt_or_ge i listed.size with h' | h'
  · simp [h'] at h0 h1; rw [h0] at h1; cases h1
  · simp [Array.getElem?_eq_none h'] at h1
theorem wpAnyT_first {i : Nat} {oi : Oper} {v : Value} (hi : ops[i]? = some oi) (hsel : ∀ (j : Nat) (o : Oper) cs b, ops[j]? = some o → o.op ≠ .select cs b)
    (hQ : ∀ c a w, Q (.panic c) (a.put oi.dst v) w → Q (.panic c) a w) (hwl : Region.waitsFor md ops L i = true) :
    ∀ (fuel : Nat) (listed : Array Bool) (a : Act) (w : World),
      (∀ j oj, ops[j]? = some oj → j ≠ i → listed.getD j true = false → (∀ e ∈ oj.after, Region.binds md e = true → e.on ≠ i) → oi.apart ops oj = true) →
      i ∈ Region.ready md ops listed → YieldsIf P ops S oi v a → S w →
      wpAnyT P md ops Q S L fuel (listed.setIfInBounds i true) (a.put oi.dst v) w → wpAnyT P md ops Q S L (fuel + 1) listed a w := by
  intro fuel
  induction fuel with
  | zero =>
    intro listed a w _ hr hy hS H
    refine ⟨fun h => (by rw [h] at hr; cases hr), fun j hj => ?_⟩
    by_cases hji : j = i
    · subst hji; exact hy.wpOp hi hS ⟨fun _ => hS, H⟩
    · have h5 := ready_mono hj hji
      rw [H.1] at h5
      cases h5
  | succ fuel ih =>
    intro listed a w hfree hr hy hS H
    refine ⟨fun h => (by rw [h] at hr; cases hr), fun j hj => ?_⟩
    by_cases hji : j = i
    · subst hji; exact hy.wpOp hi hS ⟨fun _ => hS, H⟩
    · have hjL : j ≠ L := fun e => not_ready hwl hr (e ▸ hj)
      obtain ⟨hjun, oj, hoj, hall⟩ := mem_ready.1 hj
      have hnot : ∀ e ∈ oj.after, Region.binds md e = true → e.on ≠ i := fun e he hb heq => by
        have h1 := hall e he hb
        have h0 := (mem_ready.1 hr).1
        rw [heq] at h1
        rcases Nat.lt_or_ge i listed.size with h' | h'
        · simp [h'] at h0 h1; rw [h0] at h1; cases h1
        · simp [Array.getElem?_eq_none h'] at h1
      have h2 := wpOp_putIf hoj (hfree j oj hoj hji hjun hnot) (fun cs b => hsel i oi cs b hi) (fun cs b => hsel j oj cs b hoj) hQ hy (H.2 j (ready_mono hj hji))
      refine wpOp_mono (fun a' w' h3 => ⟨h3.2.1, ih (listed.setIfInBounds j true) a' w' (fun k ok hk hki hun hno => ?_) (ready_mono hr (Ne.symm hji)) h3.1 (h3.2.1 hjL) ?_⟩) h2
      · refine hfree k ok hk hki ?_ hno
        by_cases hjk : j = k
        · subst hjk; exact hjun
        · rw [getD_set_ne true hjk] at hun; exact hun
      · rw [Array.setIfInBounds_comm _ _ hji]
        exact h3.2.2
theorem wpAnyT_take {i : Nat} {oi : Oper} {v : Value} {fuel : Nat} {listed : Array Bool} {a : Act} {w : World} (hi : ops[i]? = some oi)
    (hs : Region.noSelect ops = true) (hf : Region.free md ops listed i = true) (hr : (Region.ready md ops listed).contains i = true) (hwl : Region.waitsFor md ops L i = true)
    (hQ : ∀ c a w, Q (.panic c) (a.put oi.dst v) w → Q (.panic c) a w) (hy : YieldsIf P ops S oi v a) (hS : S w)
    (h : wpAnyT P md ops Q S L fuel (listed.setIfInBounds i true) (a.put oi.dst v) w) : wpAnyT P md ops Q S L (fuel + 1) listed a w :=
  wpAnyT_first hi (Region.noSelect_spec hs) hQ hwl fuel listed a w (Region.free_spec hi hf) (by simpa using hr) hy hS h
/-- one operation alone may come up -/
theorem wpAnyT_one {i : Nat} {o : Oper} {fuel : Nat} {listed : Array Bool} {a : Act} {w : World} (ho : ops[i]? = some o) (hr : Region.ready md ops listed = [i])
    (h : ∀ K' : Act → World → Prop, Shut (∀ a w, (i ≠ L → S w) → wpAnyT P md ops Q S L fuel (listed.setIfInBounds i true) a w → K' a w) → if Region.wanted o (yielded ops a.tmps) = true then Oper.wp P o a w K' Q else K' (a.put o.dst undef) w) :
    wpAnyT P md ops Q S L (fuel + 1) listed a w :=
  ⟨fun h0 => (by rw [hr] at h0; cases h0), fun j hj => by
    rw [hr] at hj
    obtain rfl : j = i := by simpa using hj
    exact wpOp_step ho (fun K' hK => h K' (fun a w hS hW => hK a w ⟨hS, hW⟩))⟩
theorem wpAnyT_done {listed : Array Bool} {a : Act} {w : World} (hr : Region.ready md ops listed = []) (h : Q .normal a w) : ∀ fuel, wpAnyT P md ops Q S L fuel listed a w
  | 0 => ⟨hr, h⟩
  | _ + 1 => ⟨fun _ => h, by rw [hr]; simp⟩
theorem wp_region_tail {id : Nat} {a : Act} {w : World} (S : World → Prop) (L : Nat) (hm : P.follows .mixedOrders = true)
    (h : wpAnyT P .any ops Q S L ops.size (Array.replicate ops.size false) a w.drew) : (Code.region id ops true).wp P Q a w :=
  wp_region_any hm (wpAny_of_T _ _ _ _ h)
end
end G294

/- Regions that draw their order, whose operations read and whose callees lay new memory alone and answer the same in all such worlds. -/
namespace G294
open Go Go.RowKit
structure Grew (w : World) where
  at_ : World
  old : Below w.heap.size w at_
instance (w : World) : Inhabited (Grew w) := ⟨⟨w, Below.refl _ _⟩⟩
instance (w : World) : Nonempty (Grew w) := ⟨default⟩
theorem wp_region_grew {P : Program} {id : Nat} {Q : Exit → Act → World → Prop} {a : Act} {w : World} {l : List Oper} (hm : P.follows .mixedOrders = true) (hB : Region.lexB .any l.toArray = true)
    (h : wpQuiet P l.toArray (fun w' => ∃ p : Grew w, w' = p.at_) (fun a' => ∀ w', (∃ p : Grew w, w' = p.at_) → Q .normal a' w') l a) : (Code.region id l.toArray true).wp P Q a w :=
  wp_region_quiet (C := fun w' => ∃ p : Grew w, w' = p.at_) hm hB ⟨⟨w.drew, (Below.refl _ _).drew⟩, rfl⟩ (by simpa using h)
theorem grew_bool {P : Program} {f : FuncId} {args : Array Value} {w : World} {p : Grew w} {b : Bool} (h : Calls P f args p.at_ (RetBool p.at_ b)) :
    Calls P f args p.at_ fun e w'' => e = .returned (.bool b) ∧ ∃ q : Grew w, w'' = q.at_ :=
  h.mono fun _ w'' ⟨he, ht⟩ => ⟨he, ⟨w'', ht.base p.old p.old.size (by omega)⟩, rfl⟩
theorem grew_cell {w : World} {B o : Nat} {x : Value} (h : w.cell? ⟨B, o, none⟩ = some x) (hB : B < w.heap.size) (p : Grew w) : p.at_.cell? ⟨B, o, none⟩ = some x := (p.old.cell (p := ⟨B, o, none⟩) hB).trans h
end G294

/- Chapter 10: the best path into a state: the program's. -/
namespace G294
open Go Go.RowKit
theorem boxV2_set0 {B : Nat} {x y : Value} {W : World} (h : BoxV2 B x y W) (p : Value) : BoxV2 B p y (W.setCell ⟨B, 0, none⟩ p) :=
  ⟨World.cell?_setCell_same _ _ _ h.c0, (World.cell?_setCell_other _ _ _ _ (by simp)).trans h.c1, by simpa using h.f0, by simpa using h.f1, by simpa using h.lt⟩
theorem boxV2_set1 {B : Nat} {x y : Value} {W : World} (h : BoxV2 B x y W) (p : Value) : BoxV2 B x p (W.setCell ⟨B, 1, none⟩ p) :=
  ⟨(World.cell?_setCell_other _ _ _ _ (by simp)).trans h.c0, World.cell?_setCell_same _ _ _ h.c1, by simpa using h.f0, by simpa using h.f1, by simpa using h.lt⟩
/-- paths that stay small -/
def okP (n : Nat) (m : Int) (p : Pt) : Prop := p.1.length ≤ n ∧ -1 ≤ p.2 ∧ p.2 ≤ m
theorem okP_no (n : Nat) {m : Int} (h : -1 ≤ m) : okP n m noP := ⟨Nat.zero_le _, by simp [noP], h⟩
theorem okP_cand {n : Nat} {m : Int} {p : Pt} (h : okP n m p) (h0 : ¬ p.2 < 0) (st b : Nat) (r : List UInt8) : okP (n + 1) (m + 3) (cand p st b r) := by
  obtain ⟨h1, h2, h3⟩ := h
  have := dl_le (a := outN st b) (b := r)
  rw [outN_len] at this
  refine ⟨by simp [cand]; exact h1, ?_, ?_⟩
  · show -1 ≤ p.2 + _; omega
  · show p.2 + _ ≤ _; omega
theorem okP_up {n : Nat} {m : Int} {l : List Pt} (hm : -1 ≤ m) (h : ∀ f, f < 4 → okP n m (l.getD f noP)) (r : List UInt8) (tg : Nat) : ∀ k, k ≤ 4 → okP (n + 1) (m + 3) (upTo l r tg k)
  | 0, _ => okP_no _ (by omega)
  | k + 1, hk => by
    have ih := okP_up hm h r tg k (by omega)
    unfold upTo
    split
    · unfold addC
      split
      · exact ih
      · rename_i h0
        split
        · exact okP_cand (h k (by omega)) h0 _ _ _
        · exact ih
    · exact ih
/-- the round of pathInto -/
theorem up_skip {l : List Pt} {r : List UInt8} {tg k : Nat} (h : (l.getD k noP).2 = -1 ∨ nxtN k (tg / 2) ≠ tg) : upTo l r tg (k + 1) = upTo l r tg k := by
  rw [upTo]
  by_cases e : nxtN k (tg / 2) = tg
  · rw [if_pos e]
    have h' : (l.getD k noP).2 = -1 := h.resolve_right (fun h => h e)
    exact if_pos (by omega)
  · rw [if_neg e]
theorem up_take {l : List Pt} {r : List UInt8} {tg k : Nat} (h1 : ¬ (l.getD k noP).2 < 0) (h2 : nxtN k (tg / 2) = tg) (hb : betterP (cand (l.getD k noP) k (tg / 2) r) (upTo l r tg k) = true) : upTo l r tg (k + 1) = cand (l.getD k noP) k (tg / 2) r := by
  rw [upTo, if_pos h2, addC, if_neg h1, if_pos hb]
theorem up_keep {l : List Pt} {r : List UInt8} {tg k : Nat} (h1 : ¬ (l.getD k noP).2 < 0) (h2 : nxtN k (tg / 2) = tg) (hb : betterP (cand (l.getD k noP) k (tg / 2) r) (upTo l r tg k) = false) : upTo l r tg (k + 1) = upTo l r tg k := by
  rw [upTo, if_pos h2, addC, if_neg h1, if_neg (by rw [hb]; decide)]
theorem reg_to : ∀ k, k < 4 → ∀ tg, tg < 4 → ((regH tg = UInt8.ofNat (tg / 2)) ∧ (decide (nxtN k (tg / 2) = tg) = decide (regH k = regL tg))) := by decide +kernel
def RetPt (w : World) (p : Pt) (e : Ending) (w' : World) : Prop := e = .returned (.agg #[.string (str p.1), .int .i64 p.2]) ∧ TurnIn 0 0 w w'
end G294
namespace Go.Proofs.Ytjgmegfbfjmnfaa
open Go.RowKit G294

theorem neqReg (a b c d : UInt8) (w : World) : (binOp .neq 68 (.agg #[.int .u8 (a.toNat : Int), .int .u8 (b.toNat : Int)]) (.agg #[.int .u8 (c.toNat : Int), .int .u8 (d.toNat : Int)])).run Try.prog w = .ok (.bool (!(decide (a = c) && decide (b = d)))) w := by
  have u5 := Try.underlying5
  have hS : Try.prog.underlying 68 = some (.struct (Try.prog.fieldsOf 68)) := by kernel_rfl
  have hp : Try.prog.stoodInHeld 68 = false := by kernel_rfl
  rw [run_neq_struct, show (10000 : Nat) = 9999 + 1 from rfl, run_equalIn_agg w 9999 68 _ _ hS hp]
  simp only [Program.fieldsOf, Try.underlying68]
  go_simp
  have h8 : ∀ x y : UInt8, ((x.toNat : Int) == (y.toNat : Int)) = decide (x = y) := fun x y => by
    by_cases e : x = y
    · subst e; simp
    · have : x.toNat ≠ y.toNat := fun h => e (UInt8.toNat_inj.1 h)
      rw [decide_eq_false e, beq_eq_false_iff_ne]; omega
  have h9 : ∀ x y : UInt8, ((x.toNat : Int) = (y.toNat : Int)) ↔ x = y := fun x y => ⟨fun h => UInt8.toNat_inj.1 (by omega), fun h => by rw [h]⟩
  by_cases h1 : a = c <;> by_cases h2 : b = d <;> simp [h1, h2, h9]
theorem eqgReg (op : BinOp) (x y : Operand) (a b c d : UInt8) (w : World) : (eqGuard op 68 x y (.agg #[.int .u8 (a.toNat : Int), .int .u8 (b.toNat : Int)]) (.agg #[.int .u8 (c.toNat : Int), .int .u8 (d.toNat : Int)])).run Try.prog w = .ok () w := run_eqGuard_agg w op 68 x y _ _ (by kernel_rfl)

set_option maxRecDepth 100000 in
set_option maxHeartbeats 4000000 in
theorem pathInto_own (tg : Nat) (v u : Value) (l : List Pt) (r : List UInt8) (n : Nat) (m : Int) (w : World) (hto : tg < 4) (hv : SeenP w v l) (hl : l.length = 4) (hu : Seen w u (bys (raw r))) (hr : r.length = 3)
    (hok : ∀ f, f < 4 → okP n m (l.getD f noP)) (hn : n ≤ 1000) (hm1 : -1 ≤ m) (hm2 : m ≤ 1000000) :
    Calls Try.prog 70 #[regV (regH tg) (regL tg), v, u] w (RetPt w (upTo l r tg 4)) := by
  have HU := Lib.hid hu
  obtain ⟨A, c, rfl, hlc, hcm, hx⟩ := hv
  rw [hl] at hlc hx ⊢
  unfold maxLen at hcm
  have HX := Lib.hid (hx (by omega))
  have HOK := Lib.hid hok
  have HUP : Hid (∀ k, k ≤ 4 → okP (n + 1) (m + 3) (upTo l r tg k)) := okP_up hm1 hok r tg
  have HL := Lib.hid hl
  have HR := Lib.hid hr
  have HRG := Lib.hid (fun k (hk : k < 4) => reg_to k hk tg hto)
  have HSK : Hid (∀ k, (l.getD k noP).2 = -1 ∨ nxtN k (tg / 2) ≠ tg → upTo l r tg (k + 1) = upTo l r tg k) := fun k h => up_skip h
  have HU0 : Hid (upTo l r tg 0 = noP) := Lib.hid rfl
  have HTK : Hid (∀ k, ¬ (l.getD k noP).2 < 0 → nxtN k (tg / 2) = tg → betterP (cand (l.getD k noP) k (tg / 2) r) (upTo l r tg k) = true → upTo l r tg (k + 1) = cand (l.getD k noP) k (tg / 2) r) := fun k h1 h2 h3 => up_take h1 h2 h3
  have HKP : Hid (∀ k, ¬ (l.getD k noP).2 < 0 → nxtN k (tg / 2) = tg → betterP (cand (l.getD k noP) k (tg / 2) r) (upTo l r tg k) = false → upTo l r tg (k + 1) = upTo l r tg k) := fun k h1 h2 h3 => up_keep h1 h2 h3
  generalize hXX : regH tg = X at *
  generalize hLL : regL tg = L at *
  clear hx hl hr hok hu hXX hLL
  unfold regV
  have HGO := Lib.hid (fun k W (hk : k < 4) => registerOf_own k W hk)
  have HLD : Hid (∀ k, k < 4 → l[k]? = some (l.getD k noP)) := fun k hk => by
    have e := HL.out
    rw [List.getD_eq_getElem?_getD, List.getElem?_eq_getElem (by omega)]; rfl
  have a1 := turn_alloc w (.cells #[.int .u8 (X.toNat : Int), .int .u8 (L.toNat : Int)] 68)
  have a2 := turn_alloc (w.alloc (.cells #[.int .u8 (X.toNat : Int), .int .u8 (L.toNat : Int)] 68)) (.cells #[.string ⟨#[]⟩, .int .i64 0] 25)
  have a3 := turn_alloc ((w.alloc (.cells #[.int .u8 (X.toNat : Int), .int .u8 (L.toNat : Int)] 68)).alloc (.cells #[.string ⟨#[]⟩, .int .i64 0] 25)) (.cells #[.string ⟨#[]⟩, .int .i64 (-1)] 25)
  have x0 := (boxV2_new w (.int .u8 (X.toNat : Int)) (.int .u8 (L.toNat : Int)) 68).keep (turn_trans a2 a3 (by omega)) (by omega)
  have x1 := (boxV2_new (w.alloc (.cells #[.int .u8 (X.toNat : Int), .int .u8 (L.toNat : Int)] 68)) (.string ⟨#[]⟩) (.int .i64 0) 25).keep a3 (by omega)
  have x2 := boxV2_new ((w.alloc (.cells #[.int .u8 (X.toNat : Int), .int .u8 (L.toNat : Int)] 68)).alloc (.cells #[.string ⟨#[]⟩, .int .i64 0] 25)) (.string ⟨#[]⟩) (.int .i64 (-1)) 25
  have hb0 := (turn_trans (turn_trans a1 a2 (by omega)) a3 (by omega)).to_below
  simp only [World.size_alloc] at x1 x2
  go_enter Try.func70, Try.ntmps70
  go_wp2_with fail
  generalize (((w.alloc (.cells #[.int .u8 (X.toNat : Int), .int .u8 (L.toNat : Int)] 68)).alloc (.cells #[.string ⟨#[]⟩, .int .i64 0] 25)).alloc (.cells #[.string ⟨#[]⟩, .int .i64 (-1)] 25)) = w0 at *
  obtain ⟨B2, hB2⟩ : ∃ B, B = w.heap.size + 1 + 1 := ⟨_, rfl⟩
  obtain ⟨B1, hB1⟩ : ∃ B, B = w.heap.size + 1 := ⟨_, rfl⟩
  obtain ⟨B0, hB0⟩ : ∃ B, B = w.heap.size := ⟨_, rfl⟩
  rw [← hB2] at x2 ⊢
  rw [← hB1] at x1 ⊢
  rw [← hB0] at x0 ⊢
  have d1 : B0 < B1 := by omega
  have d2 : B1 < B2 := by omega
  have d0 : w.heap.size ≤ B0 := by omega
  have HX2 : Hid (BoxV2 B2 (.string (str (upTo l r tg 0).1)) (.int .i64 (upTo l r tg 0).2) w0) := by show BoxV2 _ _ _ _; rw [HU0.out]; exact x2
  have HX0 := Lib.hid x0
  have HX1 := Lib.hid x1
  have HBL := Lib.hid hb0
  generalize upTo l r tg = G at *
  clear a1 a2 a3 x0 x1 x2 hb0 hB2 hB1 hB0
  go_loopw [17] (fun i wr => ∃ k : Nat, k ≤ 4 ∧ i = .int .i64 k ∧ Hid (BoxV2 B0 (.int .u8 (X.toNat : Int)) (.int .u8 (L.toNat : Int)) wr) ∧ Hid (BoxV2 B1 (.string ⟨#[]⟩) (.int .i64 0) wr) ∧ Hid (BoxV2 B2 (.string (str (G k).1)) (.int .i64 (G k).2) wr) ∧ Hid (Below w.heap.size w wr)) (fun i _ => 4 - (intOf i).toNat)
  case atStart => exact ⟨0, Nat.zero_le _, rfl, HX0, HX1, HX2, HBL⟩
  case round =>
    obtain ⟨k, hk, rfl, Y0, Y1, Y2, HB⟩ := hrel
    clear HX0 HX1 HX2 HBL
    by_cases hlt : k < 4
    · have hki : (k : Int) < 4 := by omega
      obtain ⟨b, off, rfl, hbl, hcell⟩ := HX.out
      have hc := hcell k _ (HLD.out k hlt)
      have hc1 := (HB.out.cell (p := ⟨b, off + k * 2, none⟩) hbl).trans hc.1
      have hc2 := (HB.out.cell (p := ⟨b, off + k * 2 + 1, none⟩) hbl).trans hc.2
      have hok := HOK.out k hlt
      have HGO2 := Lib.hid (fun W => HGO.out k W hlt)
      have HRG2 := Lib.hid (HRG.out k hlt)
      have HSK2 := Lib.hid (HSK.out k)
      have HTK2 := Lib.hid (HTK.out k)
      have HKP2 := Lib.hid (HKP.out k)
      have hU := HUP.out k hk
      generalize hp : l.getD k noP = p at *
      obtain ⟨s, y⟩ := p
      have l0 := Y0.out.lt
      have l1 := Y1.out.lt
      have l2 := Y2.out.lt
      have a5 := turn_alloc wr (.cells #[.string (str s), .int .i64 y] 25)
      have Y0a := Lib.hid (Y0.out.keep a5 (by omega))
      have Y1a := Lib.hid (Y1.out.keep a5 (by omega))
      have Y2a := Lib.hid (Y2.out.keep a5 (by omega))
      have YPa := Lib.hid (boxV2_new wr (.string (str s)) (.int .i64 y) 25)
      have HBa := Lib.hid (a5.base HB.out HB.out.size (by omega))
      have z5 : wr.heap.size < (wr.alloc (.cells #[.string (str s), .int .i64 y] 25)).heap.size := by rw [World.size_alloc]; omega
      simp only at hc1 hc2
      clear hcell hc Y0 Y1 Y2 a5
      go_wp2_with fail
      refine (HGO2.out _).mono ?_
      rintro e w6 ⟨rfl, k6⟩
      have s6 := k6.size
      have t6 := turn_trans k6 (turn_alloc w6 (.cells #[.int .u8 ((regH k).toNat : Int), .int .u8 ((regL k).toNat : Int)] 68)) (by omega)
      have Y0b := Lib.hid (Y0a.out.keep t6 (by omega))
      have Y1b := Lib.hid (Y1a.out.keep t6 (by omega))
      have Y2b := Lib.hid (Y2a.out.keep t6 (by omega))
      have YPb := Lib.hid (YPa.out.keep t6 (by omega))
      have YRb := Lib.hid (boxV2_new w6 (.int .u8 ((regH k).toNat : Int)) (.int .u8 ((regL k).toNat : Int)) 68)
      have HBb := Lib.hid (t6.base HBa.out HBa.out.size (by omega))
      have e2 : B2 < wr.heap.size := by omega
      have e3 : wr.heap.size < w6.heap.size := by omega
      generalize hXk : regH k = Xk at *
      generalize hLk : regL k = Lk at *
      unfold regV
      go_wp2_with fail
      generalize (w6.alloc (.cells #[.int .u8 (Xk.toNat : Int), .int .u8 (Lk.toNat : Int)] 68)) = w7 at *
      clear t6 Y0a Y1a Y2a YPa HBa k6 s6 hc1 hc2 z5 l0 l1 l2
      have c0 := YPb.out.c1
      have r0 := YRb.out.c0
      have r1 := YRb.out.c1
      have g0 := Y0b.out.c0
      have g1 := Y0b.out.c1
      have hlR := YRb.out.lt
      have hl0 := Y0b.out.lt
      by_cases hy : y = -1
      · have hyb : (y == -1) = true := by simpa using hy
        have HNX : Hid (G (k + 1) = G k) := HSK2.out (.inl hy)
        have Y2d : Hid (∀ nq, BoxV2 B2 (.string (str (G (k + 1)).1)) (.int .i64 (G (k + 1)).2) (w7.drewN nq)) := fun nq => by rw [HNX.out]; exact Y2b.out.drewN nq
        clear hy
        go_quiet (fail)
        go_wp2_with fail
        go_roundw
        case rel => exact ⟨k + 1, by omega, by go_num, Y0b.out.drewN _, Y1b.out.drewN _, Y2d.out _, below_drewN HBb.out _⟩
        case measure => simp [intOf]; omega
      · have hyb : (y == -1) = false := by simpa using hy
        have HAFT : Hid (∀ W, Calls Try.prog 51 #[.agg #[.int .u8 (Xk.toNat : Int), .int .u8 (Lk.toNat : Int)], .int .u8 (X.toNat : Int)] W (RetReg W X Xk)) := fun W => after_own Xk Lk X W
        unfold RetReg regV at HAFT
        have hneq : ∀ W, (binOp .neq 68 (.agg #[.int .u8 (X.toNat : Int), .int .u8 (Xk.toNat : Int)]) (.agg #[.int .u8 (X.toNat : Int), .int .u8 (L.toNat : Int)])).run Try.prog W = .ok (.bool (decide (Xk ≠ L))) W := fun W => by
          rw [neqReg]; by_cases h : Xk = L <;> simp [h]
        have hgd : ∀ (op : BinOp) (x y : Operand) (W : World), (eqGuard op 68 x y (.agg #[.int .u8 (X.toNat : Int), .int .u8 (Xk.toNat : Int)]) (.agg #[.int .u8 (X.toNat : Int), .int .u8 (L.toNat : Int)])).run Try.prog W = .ok () W := fun op x y W => eqgReg op x y _ _ _ _ W
        generalize hsk : decide (Xk ≠ L) = sk at *
        go_cut [33] from 24 to 32 (fun q wx => q = .bool sk ∧ TurnIn 0 0 w7 wx)
        case first =>
          have S0 : w7.cell? ⟨wr.heap.size, 1, none⟩ = some (.int .i64 y) ∧ w7.cell? ⟨w6.heap.size, 0, none⟩ = some (.int .u8 (Xk.toNat : Int)) ∧ w7.cell? ⟨w6.heap.size, 1, none⟩ = some (.int .u8 (Lk.toNat : Int)) ∧ w7.cell? ⟨B0, 0, none⟩ = some (.int .u8 (X.toNat : Int)) ∧ w7.cell? ⟨B0, 1, none⟩ = some (.int .u8 (L.toNat : Int)) := ⟨c0, r0, r1, g0, g1⟩
          go_region_held3 (fun W => W.cell? ⟨wr.heap.size, 1, none⟩ = some (.int .i64 y) ∧ W.cell? ⟨w6.heap.size, 0, none⟩ = some (.int .u8 (Xk.toNat : Int)) ∧ W.cell? ⟨w6.heap.size, 1, none⟩ = some (.int .u8 (Lk.toNat : Int)) ∧ W.cell? ⟨B0, 0, none⟩ = some (.int .u8 (X.toNat : Int)) ∧ W.cell? ⟨B0, 1, none⟩ = some (.int .u8 (L.toNat : Int)))
            (first | exact S1 | exact S0)
            ((go_at_call 51; (with_reducible refine (HAFT.out _).mono ?_); rintro e w8 ⟨rfl, k8⟩; have j8 : TurnIn 0 0 w7 w8 := ⟨k8.os, k8.tape, k8.output, k8.size, k8.block⟩; have S1 : w8.cell? ⟨wr.heap.size, 1, none⟩ = some (.int .i64 y) ∧ w8.cell? ⟨w6.heap.size, 0, none⟩ = some (.int .u8 (Xk.toNat : Int)) ∧ w8.cell? ⟨w6.heap.size, 1, none⟩ = some (.int .u8 (Lk.toNat : Int)) ∧ w8.cell? ⟨B0, 0, none⟩ = some (.int .u8 (X.toNat : Int)) ∧ w8.cell? ⟨B0, 1, none⟩ = some (.int .u8 (L.toNat : Int)) := ⟨cell_turn j8 c0 (by omega), cell_turn j8 r0 hlR, cell_turn j8 r1 hlR, cell_turn j8 g0 hl0, cell_turn j8 g1 hl0⟩))
          all_goals
            go_wp2_with fail
            go_meet
            exact ⟨rfl, j8⟩
        case rest =>
          obtain ⟨rfl, j8⟩ := hcut
          have Y0c := Lib.hid (Y0b.out.keep j8 (by omega))
          have Y1c := Lib.hid (Y1b.out.keep j8 (by omega))
          have Y2c := Lib.hid (Y2b.out.keep j8 (by omega))
          have YPc := Lib.hid (YPb.out.keep j8 (by omega))
          have YRc := Lib.hid (YRb.out.keep j8 (by omega))
          have HBc := Lib.hid (j8.base HBb.out HBb.out.size (by omega))
          have s8 := j8.size
          generalize hwc : wc = w8 at *
          clear Y0b Y1b Y2b YPb YRb HBb j8 hwc hneq hgd HAFT c0 r0 r1 g0 g1
          cases sk
          case true =>
            have HNX : Hid (G (k + 1) = G k) := HSK2.out (.inr (fun h => by
              have h2 := HRG2.out.2
              rw [h] at h2
              simp only [decide_true, true_eq_decide_iff] at h2
              rw [h2] at hsk
              simp at hsk))
            have Y2d : Hid (BoxV2 B2 (.string (str (G (k + 1)).1)) (.int .i64 (G (k + 1)).2) w8) := by show BoxV2 _ _ _ _; rw [HNX.out]; exact Y2c.out
            clear hsk
            go_wp2_with fail
            go_roundw
            case rel => exact ⟨k + 1, by omega, by go_num, Y0c, Y1c, Y2d, HBc⟩
            case measure => simp [intOf]; omega
          case false =>
            have HNX : Hid (nxtN k (tg / 2) = tg) := by
              show _ = _
              have h2 := HRG2.out.2
              have hx : Xk = L := by simpa using hsk
              rw [hx] at h2
              simpa using h2
            have HXB : Hid (X = UInt8.ofNat (tg / 2)) := HRG2.out.1
            have HOR : Hid ([X ^^^ Xk ^^^ Lk, X ^^^ Lk, X ^^^ Xk] = raw (outN k (tg / 2))) := by
              show _ = _
              rw [HXB.out, ← hXk, ← hLk]; exact outs_raw k hlt (tg / 2) (by omega)
            have HCD : Hid (cand (s, y) k (tg / 2) r = (s ++ txt [X], y + (dl (outN k (tg / 2)) r : Nat))) := by
              show _ = _
              rw [HXB.out]
              have e : ∀ b, b < 2 → txt [UInt8.ofNat b] = [chB b] := by decide
              rw [e _ (by omega)]; rfl
            have hdl : dl (outN k (tg / 2)) r ≤ 3 := dl_le
            have HDF : Hid (∀ W v, Seen W v (bys (raw (outN k (tg / 2)))) → Seen W u (bys (raw r)) → Calls Try.prog 56 #[v, u] W (RetInt W (dl (outN k (tg / 2)) r : Nat))) := fun W v h1 h2 => by
              have := differences_own v u _ _ W h1 h2 (by rw [raw_len, raw_len, outN_len, HR.out]) (by simp)
              rw [raw_dl] at this; exact this
            generalize hDD : dl (outN k (tg / 2)) r = D at *
            clear hsk
            have c0 := YPc.out.c0
            have hlP := YPc.out.lt
            go_wp2_with fail
            have hS : (fun W : World => W.cell? ⟨wr.heap.size, 0, none⟩ = some (.string (str s)) ∧ True) w8.drew := ⟨c0, trivial⟩
            refine wp_region_tail (fun W : World => W.cell? ⟨wr.heap.size, 0, none⟩ = some (.string (str s)) ∧ True) 7 (by kernel_rfl) ?_
            refine wpAnyT_take (i := 0) (oi := _) (v := ?va0) rfl (by kernel_rfl) (by kernel_rfl) (by kernel_rfl) (by kernel_rfl) (fun _ _ _ h => h) (Or.inl ⟨by rfl, ?hya0⟩) hS ?resta0
            case hya0 => (intro W hW; obtain ⟨e1, e2⟩ := hW; go_simp; try with_reducible rfl)
            simp only [Act.put, List.setIfInBounds_toArray, List.set_cons_zero, List.set_cons_succ]
            refine wpAnyT_take (i := 1) (oi := _) (v := ?va1) rfl (by kernel_rfl) (by kernel_rfl) (by kernel_rfl) (by kernel_rfl) (fun _ _ _ h => h) (Or.inl ⟨by rfl, ?hya1⟩) hS ?resta1
            case hya1 => (intro W hW; obtain ⟨e1, e2⟩ := hW; go_simp; try with_reducible rfl)
            simp only [Act.put, List.setIfInBounds_toArray, List.set_cons_zero, List.set_cons_succ]
            refine wpAnyT_take (i := 2) (oi := _) (v := ?va2) rfl (by kernel_rfl) (by kernel_rfl) (by kernel_rfl) (by kernel_rfl) (fun _ _ _ h => h) (Or.inl ⟨by rfl, ?hya2⟩) hS ?resta2
            case hya2 => (intro W hW; obtain ⟨e1, e2⟩ := hW; go_simp; try with_reducible rfl)
            simp only [Act.put, List.setIfInBounds_toArray, List.set_cons_zero, List.set_cons_succ]
            refine wpAnyT_one (i := 3) (o := _) rfl (by kernel_rfl) (fun K hK => ?_)
            go_simp
            have a9 := turn_alloc w8 (.cells #[.int .u8 (X.toNat : Int)] 5)
            have hse : Seen (w8.alloc (.cells #[.int .u8 (X.toNat : Int)] 5)).drew (.slice (some ⟨w8.heap.size, 0, none⟩) 1 1) (bys [X]) := by
              refine ⟨_, 1, rfl, by simp, by unfold maxLen; omega, fun _ => ⟨w8.heap.size, 0, rfl, by simp, fun i uu hu => ?_⟩⟩
              match i, hu with
              | 0, hu =>
                simp only [bys, List.map_cons, List.getElem?_cons_zero, Option.some.injEq] at hu
                rw [← hu]; simp
            have HSE := Lib.hid hse
            have c9 : (w8.alloc (.cells #[.int .u8 (X.toNat : Int)] 5)).cell? ⟨wr.heap.size, 0, none⟩ = some (.string (str s)) := cell_turn a9 c0 hlP
            have l9 : wr.heap.size < (w8.alloc (.cells #[.int .u8 (X.toNat : Int)] 5)).heap.size := Nat.lt_of_lt_of_le hlP a9.size
            refine hK.out _ _ (fun _ => ⟨c9, trivial⟩) ?_
            clear hK K hS hse
            try simp only [Act.put, List.setIfInBounds_toArray, List.set_cons_zero, List.set_cons_succ]
            refine wpAnyT_one (i := 4) (o := _) rfl (by kernel_rfl) (fun K hK => ?_)
            go_simp
            refine (bitText_own _ [X] _ HSE.out (by simp)).mono ?_
            rintro e w10 ⟨rfl, k10⟩
            have j10 : TurnIn 0 0 (w8.alloc (.cells #[.int .u8 (X.toNat : Int)] 5)) w10 := ⟨k10.os, k10.tape, k10.output, k10.size, k10.block⟩
            have c10 := cell_turn j10 c9 l9
            have j9 := turn_trans a9 j10 (by omega)
            have Y0d := Lib.hid (Y0c.out.keep j9 (by omega))
            have Y1d := Lib.hid (Y1c.out.keep j9 (by omega))
            have Y2d := Lib.hid (Y2c.out.keep j9 (by omega))
            have YPd := Lib.hid (YPc.out.keep j9 (by omega))
            have YRd := Lib.hid (YRc.out.keep j9 (by omega))
            have HBd := Lib.hid (j9.base HBc.out HBc.out.size (by omega))
            have s10 := j9.size
            have HBd0 : Hid (w.heap.size ≤ wr.heap.size) := by show _ ≤ _; omega
            have f10 := YPd.out.f0
            refine hK.out _ _ (fun _ => ⟨c10, trivial⟩) ?_
            clear hK K j10 k10 a9 c9 l9 j9 Y0c Y1c Y2c YPc YRc HBc
            try simp only [Act.put, List.setIfInBounds_toArray, List.set_cons_zero, List.set_cons_succ]
            have hz1 : (str s).size ≤ 1000 := by rw [str_size]; have := hok.1; simp only at this; omega
            have hz2 : (str (txt [X])).size = 1 := by rw [str_size]; rfl
            have HAP : Hid (str s ++ str (txt [X]) = str (s ++ txt [X])) := str_append _ _
            have hz3 : ¬ 9223372036854775807 < (str s).size + 1 := by omega
            generalize str (txt [X]) = tx at *
            refine wpAnyT_one (i := 5) (o := _) rfl (by kernel_rfl) (fun K hK => ?_)
            go_simp
            refine hK.out _ _ (fun _ => ⟨c10, trivial⟩) ?_
            clear hK K
            try simp only [Act.put, List.setIfInBounds_toArray, List.set_cons_zero, List.set_cons_succ]
            refine wpAnyT_one (i := 6) (o := _) rfl (by kernel_rfl) (fun K hK => ?_)
            go_simp
            refine hK.out _ _ (fun _ => ⟨c10, trivial⟩) ?_
            clear hK K
            try simp only [Act.put, List.setIfInBounds_toArray, List.set_cons_zero, List.set_cons_succ]
            refine wpAnyT_one (i := 7) (o := _) rfl (by kernel_rfl) (fun K hK => ?_)
            go_simp
            refine hK.out _ _ (fun h => absurd rfl h) ?_
            clear hK K
            refine wpAnyT_done (by kernel_rfl) ?_ _
            simp only [Exit.inBlock, Exit.then]
            rw [HAP.out]
            have y2c := hok.2.1
            have y3c := hok.2.2
            simp only at y2c y3c
            have YPe := Lib.hid (boxV2_set0 YPd.out (.string (str (s ++ txt [X]))))
            have te := turn_setCell w10 wr.heap.size 0 (.string (str (s ++ txt [X])))
            have Y0e := Lib.hid (Y0d.out.keep te (by omega))
            have Y1e := Lib.hid (Y1d.out.keep te (by omega))
            have Y2e := Lib.hid (Y2d.out.keep te (by omega))
            have YRe := Lib.hid (YRd.out.keep te (by omega))
            have HBe := Lib.hid (HBd.out.setCell (p := ⟨wr.heap.size, 0, none⟩) HBd0.out (.string (str (s ++ txt [X]))))
            have hse := te.size
            generalize w10.setCell ⟨wr.heap.size, 0, none⟩ (.string (str (s ++ txt [X]))) = w11 at *
            generalize s ++ txt [X] = x1 at *
            clear Y0d Y1d Y2d YPd YRd HBd te c10 f10
            have c11 := YPe.out.c1
            have f11 := YPe.out.f1
            have r0 := YRe.out.c0
            have r1 := YRe.out.c1
            have hlP2 := YPe.out.lt
            have hlR2 := YRe.out.lt
            have HOUT : Hid (∀ W, Calls Try.prog 50 #[.agg #[.int .u8 (Xk.toNat : Int), .int .u8 (Lk.toNat : Int)], .int .u8 (X.toNat : Int)] W (RetBytes 5 W (raw (outN k (tg / 2))))) := fun W => by rw [← HOR.out]; exact outputs_own Xk Lk X W
            have HUe := Lib.hid (HU.out.below HBe.out)
            go_wp2_with fail
            have hS : (fun W : World => W.cell? ⟨wr.heap.size, 1, none⟩ = some (.int .i64 y) ∧ W.cell? ⟨w6.heap.size, 0, none⟩ = some (.int .u8 (Xk.toNat : Int)) ∧ W.cell? ⟨w6.heap.size, 1, none⟩ = some (.int .u8 (Lk.toNat : Int))) w11.drew := ⟨c11, r0, r1⟩
            refine wp_region_tail (fun W : World => W.cell? ⟨wr.heap.size, 1, none⟩ = some (.int .i64 y) ∧ W.cell? ⟨w6.heap.size, 0, none⟩ = some (.int .u8 (Xk.toNat : Int)) ∧ W.cell? ⟨w6.heap.size, 1, none⟩ = some (.int .u8 (Lk.toNat : Int))) 9 (by kernel_rfl) ?_
            refine wpAnyT_take (i := 0) (oi := _) (v := ?vb0) rfl (by kernel_rfl) (by kernel_rfl) (by kernel_rfl) (by kernel_rfl) (fun _ _ _ h => h) (Or.inl ⟨by rfl, ?hyb0⟩) hS ?restb0
            case hyb0 => (intro W hW; obtain ⟨e1, e2, e3⟩ := hW; go_simp; try with_reducible rfl)
            simp only [Act.put, List.setIfInBounds_toArray, List.set_cons_zero, List.set_cons_succ]
            refine wpAnyT_take (i := 1) (oi := _) (v := ?vb1) rfl (by kernel_rfl) (by kernel_rfl) (by kernel_rfl) (by kernel_rfl) (fun _ _ _ h => h) (Or.inl ⟨by rfl, ?hyb1⟩) hS ?restb1
            case hyb1 => (intro W hW; obtain ⟨e1, e2, e3⟩ := hW; go_simp; try with_reducible rfl)
            simp only [Act.put, List.setIfInBounds_toArray, List.set_cons_zero, List.set_cons_succ]
            refine wpAnyT_take (i := 2) (oi := _) (v := ?vb2) rfl (by kernel_rfl) (by kernel_rfl) (by kernel_rfl) (by kernel_rfl) (fun _ _ _ h => h) (Or.inl ⟨by rfl, ?hyb2⟩) hS ?restb2
            case hyb2 => (intro W hW; obtain ⟨e1, e2, e3⟩ := hW; go_simp; try with_reducible rfl)
            simp only [Act.put, List.setIfInBounds_toArray, List.set_cons_zero, List.set_cons_succ]
            refine wpAnyT_take (i := 3) (oi := _) (v := ?vb3) rfl (by kernel_rfl) (by kernel_rfl) (by kernel_rfl) (by kernel_rfl) (fun _ _ _ h => h) (Or.inl ⟨by rfl, ?hyb3⟩) hS ?restb3
            case hyb3 => (intro W hW; obtain ⟨e1, e2, e3⟩ := hW; go_simp; try with_reducible rfl)
            simp only [Act.put, List.setIfInBounds_toArray, List.set_cons_zero, List.set_cons_succ]
            refine wpAnyT_take (i := 5) (oi := _) (v := ?vb5) rfl (by kernel_rfl) (by kernel_rfl) (by kernel_rfl) (by kernel_rfl) (fun _ _ _ h => h) (Or.inl ⟨by rfl, ?hyb5⟩) hS ?restb5
            case hyb5 => (intro W hW; obtain ⟨e1, e2, e3⟩ := hW; go_simp; try with_reducible rfl)
            simp only [Act.put, List.setIfInBounds_toArray, List.set_cons_zero, List.set_cons_succ]
            refine wpAnyT_one (i := 4) (o := _) rfl (by kernel_rfl) (fun K hK => ?_)
            go_simp
            refine (HOUT.out _).mono ?_
            rintro e w12 ⟨vo, rfl, oo, k12'⟩
            have k12 : TurnIn 0 0 w11 w12 := ⟨k12'.os, k12'.tape, k12'.output, k12'.size, k12'.block⟩
            have s12 := k12.size
            have HSE2 := Lib.hid oo.seen
            have HUf := Lib.hid (HUe.out.touch k12)
            have c12 := cell_turn k12 c11 hlP2
            have r02 := cell_turn k12 r0 hlR2
            have r12 := cell_turn k12 r1 hlR2
            refine hK.out _ _ (fun _ => ⟨c12, r02, r12⟩) ?_
            clear hK K hS k12' oo
            try simp only [Act.put, List.setIfInBounds_toArray, List.set_cons_zero, List.set_cons_succ]
            refine wpAnyT_one (i := 6) (o := _) rfl (by kernel_rfl) (fun K hK => ?_)
            go_simp
            refine (HDF.out _ _ HSE2.out HUf.out).mono ?_
            rintro e w13 ⟨rfl, k13⟩
            have s13 := k13.size
            have k1213 := turn_trans k12 k13 (by omega)
            have c13 := cell_turn k1213 c11 hlP2
            have r03 := cell_turn k1213 r0 hlR2
            have r13 := cell_turn k1213 r1 hlR2
            have f13 := frozen_turn k1213 f11 hlP2
            have HK13 := Lib.hid k1213
            have hww : IntKind.i64.wrap (y + (D : Int)) = y + (D : Int) := IntWalk.i64_in _ (by omega)
            refine hK.out _ _ (fun _ => ⟨c13, r03, r13⟩) ?_
            clear hK K k12 k13 k1213 c12 r02 r12
            try simp only [Act.put, List.setIfInBounds_toArray, List.set_cons_zero, List.set_cons_succ]
            refine wpAnyT_one (i := 7) (o := _) rfl (by kernel_rfl) (fun K hK => ?_)
            go_simp
            refine hK.out _ _ (fun _ => ⟨c13, r03, r13⟩) ?_
            clear hK K
            try simp only [Act.put, List.setIfInBounds_toArray, List.set_cons_zero, List.set_cons_succ]
            refine wpAnyT_one (i := 8) (o := _) rfl (by kernel_rfl) (fun K hK => ?_)
            go_simp
            refine hK.out _ _ (fun _ => ⟨c13, r03, r13⟩) ?_
            clear hK K
            try simp only [Act.put, List.setIfInBounds_toArray, List.set_cons_zero, List.set_cons_succ]
            refine wpAnyT_one (i := 9) (o := _) rfl (by kernel_rfl) (fun K hK => ?_)
            go_simp
            refine hK.out _ _ (fun h => absurd rfl h) ?_
            clear hK K
            refine wpAnyT_done (by kernel_rfl) ?_ _
            simp only [Exit.inBlock, Exit.then]
            have YPg0 := YPe.out.keep HK13.out (by omega)
            have YPg := Lib.hid (boxV2_set1 YPg0 (.int .i64 (y + (D : Int))))
            have tg13 := turn_setCell w13 wr.heap.size 1 (.int .i64 (y + (D : Int)))
            have Y0g := Lib.hid ((Y0e.out.keep HK13.out (by omega)).keep tg13 (by omega))
            have Y1g := Lib.hid ((Y1e.out.keep HK13.out (by omega)).keep tg13 (by omega))
            have Y2g := Lib.hid ((Y2e.out.keep HK13.out (by omega)).keep tg13 (by omega))
            have HBg := Lib.hid ((HK13.out.base HBe.out HBe.out.size (by omega)).setCell (p := ⟨wr.heap.size, 1, none⟩) HBd0.out (.int .i64 (y + (D : Int))))
            have hx2 : -1 < y + (D : Int) := by omega
            generalize w13.setCell ⟨wr.heap.size, 1, none⟩ (.int .i64 (y + (D : Int))) = w14 at *
            generalize y + (D : Int) = x2 at *
            have hyn : ¬ (s, y).2 < 0 := by show ¬ y < 0; omega
            have HTK3 := Lib.hid (HTK2.out (by first | exact hyn | omega) HNX.out)
            have HKP3 := Lib.hid (HKP2.out (by first | exact hyn | omega) HNX.out)
            rw [HCD.out] at HTK3 HKP3
            have gu2 := hU.2.1
            generalize hgk : G k = gk at *
            obtain ⟨gs, gy⟩ := gk
            simp only at gu2 Y2g
            have p0 := YPg.out.c0
            have p1 := YPg.out.c1
            have b0 := Y2g.out.c0
            have b1 := Y2g.out.c1
            have bf0 := Y2g.out.f0
            have bf1 := Y2g.out.f1
            have hl2 := Y2g.out.lt
            have hlP3 := YPg.out.lt
            have hne : wr.heap.size ≠ B2 := by omega
            clear HOUT HDF HUe HUf HSE2 HOR HCD HTK2 HKP2 HSK2 HRG2 HGO2 hyn hok hU hgk YPe Y0e Y1e Y2e YRe HBe
            by_cases hgy : gy = -1
            · have hgb : (gy == -1) = true := by simpa using hgy
              have HN : Hid (G (k + 1) = (x1, x2)) := HTK3.out (betterP_neg (by show gy < 0; omega))
              have t15 := turn_set2 w14 B2 (.string (str x1)) (.int .i64 x2)
              have R0 := Lib.hid (Y0g.out.keep t15 (by omega))
              have R1 := Lib.hid (Y1g.out.keep t15 (by omega))
              have R2 : Hid (BoxV2 B2 (.string (str (G (k + 1)).1)) (.int .i64 (G (k + 1)).2) ((w14.setCell ⟨B2, 0, none⟩ (.string (str x1))).setCell ⟨B2, 1, none⟩ (.int .i64 x2))) := by show BoxV2 _ _ _ _; rw [HN.out]; exact Y2g.out.set _ _
              have RB := Lib.hid ((HBg.out.setCell (p := ⟨B2, 0, none⟩) (by show _ ≤ B2; omega) (.string (str x1))).setCell (p := ⟨B2, 1, none⟩) (by show _ ≤ B2; omega) (.int .i64 x2))
              clear t15 hgy
              go_wp2_with fail
              go_roundw
              case rel => exact ⟨k + 1, by omega, by go_num, R0, R1, R2, RB⟩
              case measure => simp [intOf]; omega
            · have hgb : (gy == -1) = false := by simpa using hgy
              have HLT : Hid (betterP (x1, x2) (gs, gy) = ltP (x1, x2) (gs, gy)) := betterP_lt (by show ¬ gy < 0; omega)
              have HBP : Hid (∀ W, Calls Try.prog 71 #[.agg #[.string (str x1), .int .i64 x2], .agg #[.string (str gs), .int .i64 gy]] W (RetBool W (ltP (x1, x2) (gs, gy)))) := fun W => betterPath_own (x1, x2) (gs, gy) W
              rw [HLT.out] at HTK3 HKP3
              clear hgy HLT
              generalize ltP (x1, x2) (gs, gy) = lt at *
              go_wp2_with fail
              refine (HBP.out _).mono ?_
              rintro e w15 ⟨rfl, k15⟩
              have s15 := k15.size
              have p0' := cell_turn k15 p0 hlP3
              have p1' := cell_turn k15 p1 hlP3
              have b0' := cell_turn k15 b0 hl2
              have b1' := cell_turn k15 b1 hl2
              have bf0' := frozen_turn k15 bf0 hl2
              have bf1' := frozen_turn k15 bf1 hl2
              have Z0 := Lib.hid (Y0g.out.keep k15 (by omega))
              have Z1 := Lib.hid (Y1g.out.keep k15 (by omega))
              have Z2 := Lib.hid (Y2g.out.keep k15 (by omega))
              have ZB := Lib.hid (k15.base HBg.out HBg.out.size (by omega))
              clear p0 p1 b0 b1 bf0 bf1 Y0g Y1g Y2g HBg k15
              cases lt
              case true =>
                have HN : Hid (G (k + 1) = (x1, x2)) := HTK3.out rfl
                have t15 := turn_set2 w15 B2 (.string (str x1)) (.int .i64 x2)
                have R0 := Lib.hid (Z0.out.keep t15 (by omega))
                have R1 := Lib.hid (Z1.out.keep t15 (by omega))
                have R2 : Hid (BoxV2 B2 (.string (str (G (k + 1)).1)) (.int .i64 (G (k + 1)).2) ((w15.setCell ⟨B2, 0, none⟩ (.string (str x1))).setCell ⟨B2, 1, none⟩ (.int .i64 x2))) := by show BoxV2 _ _ _ _; rw [HN.out]; exact Z2.out.set _ _
                have RB := Lib.hid ((ZB.out.setCell (p := ⟨B2, 0, none⟩) (by show _ ≤ B2; omega) (.string (str x1))).setCell (p := ⟨B2, 1, none⟩) (by show _ ≤ B2; omega) (.int .i64 x2))
                clear t15
                go_wp2_with fail
                go_roundw
                case rel => exact ⟨k + 1, by omega, by go_num, R0, R1, R2, RB⟩
                case measure => simp [intOf]; omega
              case false =>
                have HN : Hid (G (k + 1) = (gs, gy)) := HKP3.out rfl
                have R2 : Hid (BoxV2 B2 (.string (str (G (k + 1)).1)) (.int .i64 (G (k + 1)).2) w15) := by show BoxV2 _ _ _ _; rw [HN.out]; exact Z2.out
                go_wp2_with fail
                go_roundw
                case rel => exact ⟨k + 1, by omega, by go_num, Z0, Z1, R2, ZB⟩
                case measure => simp [intOf]; omega
    · obtain rfl : k = 4 := by omega
      have hki : ¬ ((4 : Nat) : Int) < 4 := by omega
      have b0 := Y2.out.c0
      have b1 := Y2.out.c1
      have q0 := Y1.out.c0
      have q1 := Y1.out.c1
      have qf0 := Y1.out.f0
      have qf1 := Y1.out.f1
      generalize G 4 = g at *
      have RB := Lib.hid ((HB.out.setCell (p := ⟨B1, 0, none⟩) (by show _ ≤ B1; omega) (.string (str g.1))).setCell (p := ⟨B1, 1, none⟩) (by show _ ≤ B1; omega) (.int .i64 g.2))
      have hs1 := (Y1.out.set (.string (str g.1)) (.int .i64 g.2)).c0
      have hs2 := (Y1.out.set (.string (str g.1)) (.int .i64 g.2)).c1
      go_wp2_with fail
      refine bodyPost_ret (v := .agg #[.string (str g.1), .int .i64 g.2]) (by simp [results, Try.results70, go_sem, hs1, hs2, q0, q1]) rfl ?_
      exact ⟨rfl, TurnIn.of_below RB.out⟩

end Go.Proofs.Ytjgmegfbfjmnfaa
