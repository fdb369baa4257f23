/- Joined texts: VitG, VitR, Shape, SplitMath, VitU, VitH. -/
import Derived.Test.YtjgmegfbfjmnfaaBd06
import Derived.Laws.Slices
import Derived.Deep.CutRange
import Derived.Test.YtjgmegfbfjmnfaaBd02
import Derived.Test.YtjgmegfbfjmnfaaBd00
import Derived.Laws.DeepStrings4
set_option linter.unusedSimpArgs false
set_option linter.unusedVariables false
/- Chapter 10: the best paths to all states: the program's longerPaths and pathsThrough. -/
namespace G294
open Go Go.RowKit
theorem toList_madeCells_pts (n : Nat) : (madeCells #[.string ⟨#[]⟩, .int .i64 0] (n * 2)).toList = pts (List.replicate n (([] : List UInt8), (0 : Int))) := by
  apply List.ext_getElem?
  intro j
  by_cases hj : j < n * 2
  · rcases Nat.mod_two_eq_zero_or_one j with h | h
    · have e : j = (j / 2) * 2 := by omega
      rw [e, pts_bits _ (j / 2) (by simp; omega)]
      simp [madeCells, show j / 2 * 2 < n * 2 by omega]
      rfl
    · have e : j = (j / 2) * 2 + 1 := by omega
      have h2 : (j / 2 * 2 + 1) % 2 = 1 := by omega
      rw [e, pts_cost _ (j / 2) (by simp; omega)]
      simp [madeCells, show j / 2 * 2 + 1 < n * 2 by omega, h2]
  · rw [List.getElem?_eq_none (by simp [madeCells]; omega), List.getElem?_eq_none (by simp; omega)]
theorem stepP_get (l : List Pt) (r : List UInt8) {k : Nat} (h : k < 4) : (stepP l r)[k]? = some (upTo l r k 4) := by
  match k, h with
  | 0, _ => rfl
  | 1, _ => rfl
  | 2, _ => rfl
  | 3, _ => rfl
theorem okP_mono {n n' : Nat} {m m' : Int} {p : Pt} (h : okP n m p) (h1 : n ≤ n') (h2 : m ≤ m') : okP n' m' p := ⟨Nat.le_trans h.1 h1, h.2.1, Int.le_trans h.2.2 h2⟩
theorem okP_step {n : Nat} {m : Int} {l : List Pt} (hm : -1 ≤ m) (h : ∀ f, f < 4 → okP n m (l.getD f noP)) (r : List UInt8) : ∀ f, f < 4 → okP (n + 1) (m + 3) ((stepP l r).getD f noP) := fun f hf => by
  rw [stepP_at l r hf]; exact okP_up hm h r f 4 (Nat.le_refl _)
theorem okP_paths (r : List UInt8) : ∀ k f, f < 4 → okP k (3 * k) ((pathsN r k).getD f noP)
  | 0, f, hf => by
    match f, hf with
    | 0, _ => exact ⟨Nat.le_refl _, by simp [pathsN, startP], by simp [pathsN, startP]⟩
    | 1, _ => exact okP_no _ (by omega)
    | 2, _ => exact okP_no _ (by omega)
    | 3, _ => exact okP_no _ (by omega)
  | k + 1, f, hf => by
    have := okP_step (show -1 ≤ (3 * k : Int) by omega) (okP_paths r k) ((r.drop (3 * k)).take 3) f hf
    rw [show ((k + 1 : Nat) : Int) = (k : Int) + 1 by omega, show 3 * ((k : Int) + 1) = 3 * (k : Int) + 3 by omega]
    exact this
theorem Seen.part {w : World} {b off n c : Nat} {xs : List Value} (h : Seen w (.slice (some ⟨b, off, none⟩) n c) xs) (i m : Nat) (hi : i + m ≤ xs.length) (hm : 0 < m) : Seen w (.slice (some ⟨b, off + i, none⟩) m (c - i)) ((xs.drop i).take m) := by
  obtain ⟨A, c', e, h1, h2, h3⟩ := h
  simp only [Value.slice.injEq] at e
  obtain ⟨rfl, rfl, rfl⟩ := e
  obtain ⟨b', off', e2, hb, hc⟩ := h3 (by omega)
  simp only [Option.some.injEq, Addr.mk.injEq, and_true] at e2
  obtain ⟨rfl, rfl⟩ := e2
  have hl : ((xs.drop i).take m).length = m := by simp; omega
  refine ⟨some ⟨b, off + i, none⟩, c - i, by rw [hl], by rw [hl]; omega, by omega, fun _ => ⟨b, off + i, rfl, hb, fun j u hu => ?_⟩⟩
  have hj : j < m := by
    rcases Nat.lt_or_ge j m with h | h
    · exact h
    · rw [List.getElem?_eq_none (by omega)] at hu; cases hu
  rw [List.getElem?_take, if_pos hj, List.getElem?_drop] at hu
  rw [Nat.add_assoc]
  exact hc _ u hu
theorem bys_part (l : List UInt8) (i m : Nat) : ((bys l).drop i).take m = bys ((l.drop i).take m) := by simp [bys, List.map_drop, List.map_take]
theorem raw_part (l : List UInt8) (i m : Nat) : ((raw l).drop i).take m = raw ((l.drop i).take m) := by simp [raw, List.map_drop, List.map_take]
theorem reg_zero : ∀ k, k < 4 → (decide (regH k = 0) && decide (regL k = 0)) = decide (k = 0) := by decide +kernel
theorem startP_get {k : Nat} (h : k < 4) : startP[k]? = some (([] : List UInt8), if k = 0 then (0 : Int) else -1) := by
  match k, h with
  | 0, _ => rfl
  | 1, _ => rfl
  | 2, _ => rfl
  | 3, _ => rfl
end G294
namespace Go.Proofs.Ytjgmegfbfjmnfaa
open Go.RowKit G294

theorem vSliceLHb (b off len cap l h : Nat) (hlh : l ≤ h) (hc : h ≤ cap) (hlt : l < cap) (W : World) : (Instr.slice 22 (.slice (some ⟨b, off, none⟩) len cap) (some (.int .i64 (l : Int))) (some (.int .i64 (h : Int))) none).run Try.prog W = .ok (.slice (some ⟨b, off + l, none⟩) (h - l) (cap - l)) W := by
  have hel : (sizeOf (Try.prog.elem 22)).run Try.prog W = .ok 1 W := by kernel_rfl
  rw [run_slice_lh W 22 _ len cap (by kernel_rfl) .i64 .i64 l h (by omega) (by omega) (by omega), hel]
  simp [Result.andThen, sliced, Addr.add, show ¬ cap = l by omega]

theorem vSliceHb (b off len cap h : Nat) (hc : h ≤ cap) (h0 : 0 < cap) (W : World) : (Instr.slice 22 (.slice (some ⟨b, off, none⟩) len cap) none (some (.int .i64 (h : Int))) none).run Try.prog W = .ok (.slice (some ⟨b, off, none⟩) h cap) W := by
  have hel : (sizeOf (Try.prog.elem 22)).run Try.prog W = .ok 1 W := by kernel_rfl
  rw [run_slice_h W 22 _ len cap (by kernel_rfl) .i64 h (by omega) (by omega), hel]
  simp [Result.andThen, sliced, Addr.add]

theorem infoPathI : (Try.prog.info? 25).map (fun i => (i.zero, i.size, i.bytes)) = some (some (.agg #[.string ⟨#[]⟩, .int .i64 0]), 2, 24) := by kernel_rfl

set_option maxRecDepth 100000 in
set_option maxHeartbeats 4000000 in
theorem longerPaths_own (v u : Value) (l : List Pt) (r : List UInt8) (n : Nat) (m : Int) (w : World) (hv : SeenP w v l) (hl : l.length = 4) (hu : Seen w u (bys (raw r))) (hr : r.length = 3)
    (hok : ∀ f, f < 4 → okP n m (l.getD f noP)) (hn : n ≤ 1000) (hm1 : -1 ≤ m) (hm2 : m ≤ 1000000) :
    Calls Try.prog 66 #[v, u] w (RetPts 25 w (stepP l r)) := by
  obtain ⟨i0, hi0, hz0, hz1, hz2⟩ := info_parts infoPathI
  have HU := Lib.hid hu
  have HV := Lib.hid hv
  obtain ⟨A, c, hvv⟩ := hv.len
  rw [hl] at hvv
  subst hvv
  have HGO := Lib.hid (fun k W (hk : k < 4) => registerOf_own k W hk)
  have HPI := Lib.hid (fun k W (hk : k < 4) (hb : Below w.heap.size w W) => pathInto_own k (.slice A 4 c) u l r n m W hk (hv.below hb) hl (hu.below hb) hr hok hn hm1 hm2)
  have HSG := Lib.hid (fun k (hk : k < 4) => stepP_get l r hk)
  have HSL : Hid ((stepP l r).length = 4) := stepP_len l r
  clear hv hu hok
  generalize stepP l r = G at *
  go_enter Try.func66, Try.ntmps66
  go_wp2_with (at_make; refine wpList_make_full _ rfl _ _ _ rfl w.heap.size _ i0 _ 2 Try.underlying28 hi0 hz0 hz1 _ _ _ _ 4 rfl rfl rfl rfl ?b2 ?b3 ?b4 ?_)
  case b2 => rw [hz2]; omega
  case b3 => unfold maxLen; omega
  case b4 => exact Nat.le_refl _
  intro w1 hown1 hg1
  have hb1 : Below w.heap.size w w1 := below_of_grown hg1 (Nat.le_refl _) (by simp)
  replace hown1 : w1.ownsRow w.heap.size 25 2 (.slice (some ⟨w.heap.size, 0, none⟩) 4 4) 4 (pts (List.replicate 4 (([] : List UInt8), (0 : Int)))) := by rw [← toList_madeCells_pts]; exact hown1
  clear hg1
  go_wp2_with fail
  go_loopw [12] (fun i wr => ∃ k : Nat, k ≤ 4 ∧ i = .int .i64 k ∧ wr.ownsRow w.heap.size 25 2 (.slice (some ⟨w.heap.size, 0, none⟩) 4 4) 4 (pts (G.take k ++ List.replicate (4 - k) (([] : List UInt8), (0 : Int)))) ∧ Below w.heap.size w wr)
    (fun i _ => 4 - (intOf i).toNat)
  case atStart => exact ⟨0, Nat.zero_le _, rfl, by simpa using hown1, hb1⟩
  case round =>
    obtain ⟨k, hk, rfl, hown, hb⟩ := hrel
    clear hown1 hb1
    by_cases hlt : k < 4
    · have hki : (k : Int) < 4 := by omega
      have HSK := Lib.hid (HSG.out k hlt)
      have HB := Lib.hid hb
      have HOW := Lib.hid hown
      have hbs := hb.size
      clear hown hb
      go_wp2_with fail
      refine (HGO.out k _ hlt).mono ?_
      rintro e w2 ⟨rfl, k2⟩
      have s2 := k2.size
      have hb2 := k2.base HB.out HB.out.size (by omega)
      have HB2 := Lib.hid hb2
      have HPK := Lib.hid (HPI.out k w2 hlt hb2)
      have HOW2 := Lib.hid (owns_turn0 HOW.out k2)
      unfold regV at HPK ⊢
      clear hb2 k2
      go_wp2_with fail
      refine HPK.out.mono ?_
      rintro e w3 ⟨rfl, k3⟩
      have s3 := k3.size
      generalize hg : upTo l r k 4 = g at *
      obtain ⟨gs, gy⟩ := g
      have hown' := owns_turn0 HOW2.out k3
      have hlen : (G.take k ++ List.replicate (4 - k) (([] : List UInt8), (0 : Int))).length = 4 := by simp [HSL.out]; omega
      have hkl : k < (G.take k ++ List.replicate (4 - k) (([] : List UInt8), (0 : Int))).length := by omega
      have hd1 : w3.cell? ⟨w.heap.size, k * 2, none⟩ = some (.string (str (G.take k ++ List.replicate (4 - k) (([] : List UInt8), (0 : Int)))[k].1)) := by rw [hown'.cellAt (k * 2) (by omega), pts_bits _ k hkl]
      have hd2 : w3.cell? ⟨w.heap.size, k * 2 + 1, none⟩ = some (.int .i64 (G.take k ++ List.replicate (4 - k) (([] : List UInt8), (0 : Int)))[k].2) := by rw [hown'.cellAt (k * 2 + 1) (by omega), pts_cost _ k hkl]
      have hf1 := hown'.frozenAt (k * 2)
      have hf2 := hown'.frozenAt (k * 2 + 1)
      have hst := hown'.stored (k * 2) (.string (str gs))
      have hst2 := hst.1.stored (k * 2 + 1) (.int .i64 gy)
      rw [pts_set _ k (gs, gy) hkl, take_set_next G _ k (gs, gy) HSK.out (by simp [HSL.out]; omega)] at hst2
      have hb3 := ((k3.base HB2.out HB2.out.size (by omega)).setCell (p := ⟨w.heap.size, k * 2, none⟩) (Nat.le_refl _) (.string (str gs))).setCell (p := ⟨w.heap.size, k * 2 + 1, none⟩) (Nat.le_refl _) (.int .i64 gy)
      have HST := Lib.hid hst2.1
      have HB3 := Lib.hid hb3
      generalize (G.take k ++ List.replicate (4 - k) (([] : List UInt8), (0 : Int)))[k] = old at hd1 hd2
      clear hown' hlen hkl hst hst2 hb3 hg k3
      go_wp2_with fail
      go_roundw
      case rel => exact ⟨k + 1, by omega, by go_num, by simpa [Nat.sub_sub] using HST.out, HB3.out⟩
      case measure => simp [intOf]; omega
    · obtain rfl : k = 4 := by omega
      have hki : ¬ ((4 : Nat) : Int) < 4 := by omega
      rw [List.take_of_length_le (by rw [HSL.out]; exact Nat.le_refl _), Nat.sub_self] at hown
      have HO := Lib.hid hown
      clear hown
      go_wp2_with fail
      go_ret
      refine ⟨_, rfl, OwnP.of_made ?_, TurnIn.of_below hb⟩
      rw [HSL.out]
      simpa using HO.out

end Go.Proofs.Ytjgmegfbfjmnfaa

/- Chapter 10: one step of the model's best paths. -/
namespace G294
open Go Go.RowKit
/-- a path in a new variable -/
def NewX (w0 : World) (x : Pt) (p : Value) (W : World) : Prop := ∃ B, p = .pointer (some ⟨B, 0, none⟩) ∧ BoxV2 B (.string (str x.1)) (.int .i64 x.2) W ∧ w0.heap.size ≤ B ∧ TurnIn 0 0 w0 W
theorem newX_new {w0 X : World} {x : Pt} {T : TypeId} (k : TurnIn 0 0 w0 X) : NewX w0 x (.pointer (some ⟨X.heap.size, 0, none⟩)) (X.alloc (.cells #[.string (str x.1), .int .i64 x.2] T)) :=
  ⟨_, rfl, boxV2_new _ _ _ _, k.size, turn_trans k (turn_alloc _ _) (by omega)⟩
theorem newX_set {w0 X : World} {x : Pt} {B : Nat} {p q : Value} (b : BoxV2 B p q X) (hB : w0.heap.size ≤ B) (k : TurnIn 0 0 w0 X) : NewX w0 x (.pointer (some ⟨B, 0, none⟩)) ((X.setCell ⟨B, 0, none⟩ (.string (str x.1))).setCell ⟨B, 1, none⟩ (.int .i64 x.2)) :=
  ⟨B, rfl, b.set _ _, hB, TurnIn.of_below ((k.to_below.setCell (p := ⟨B, 0, none⟩) hB _).setCell (p := ⟨B, 1, none⟩) hB _)⟩
theorem undrewV {w w' : World} {a b : Nat} (t : TurnIn a b w.drew w') : TurnIn a b w w' := ⟨t.os, t.tape, t.output, t.size, t.block⟩
theorem turn_set2o (W : World) (B i j : Nat) (p q : Value) : TurnIn B (B + 1) W ((W.setCell ⟨B, i, none⟩ p).setCell ⟨B, j, none⟩ q) := by
  refine ⟨rfl, rfl, rfl, by simp, fun k hk hd => ?_⟩
  exact (heap_setCell_other _ ⟨B, j, none⟩ k q (by intro e; simp at e; omega)).trans (heap_setCell_other W ⟨B, i, none⟩ k p (by intro e; simp at e; omega))
theorem boxV2_made {X W : World} {a b : Value} {T : TypeId} (k : TurnIn 0 0 (X.alloc (.cells #[a, b] T)) W) : BoxV2 X.heap.size a b W := (boxV2_new X a b T).keep k (by omega)
/-- the model's round, by cases -/
theorem ms_skip {l : List Pt} {r : List UInt8} {last : Bool} {out : List Pt} {st b : Nat} (h : (l.getD st noP).2 < 0 ∨ (last = true ∧ b = 1)) : mStep l r last out st b = out := if_pos h
theorem ms_take {l : List Pt} {r : List UInt8} {last : Bool} {out : List Pt} {st b : Nat} (h : ¬ ((l.getD st noP).2 < 0 ∨ (last = true ∧ b = 1))) (hb : betterP (cand (l.getD st noP) st b r) (out.getD (nxtN st b) noP) = true) :
    mStep l r last out st b = out.set (nxtN st b) (cand (l.getD st noP) st b r) := by unfold mStep; rw [if_neg h, if_pos hb]
theorem ms_keep {l : List Pt} {r : List UInt8} {last : Bool} {out : List Pt} {st b : Nat} (h : ¬ ((l.getD st noP).2 < 0 ∨ (last = true ∧ b = 1))) (hb : betterP (cand (l.getD st noP) st b r) (out.getD (nxtN st b) noP) = false) :
    mStep l r last out st b = out := by unfold mStep; rw [if_neg h, if_neg (by rw [hb]; decide)]
theorem mAll_next (l : List Pt) (r : List UInt8) (last : Bool) (st b : Nat) (hb : b < 2) : mAll l r last (2 * st + b + 1) = mStep l r last (mAll l r last (2 * st + b)) st b := by
  rw [mAll, show (2 * st + b) / 2 = st by omega, show (2 * st + b) % 2 = b by omega]
def stepX (l : List Pt) (r : List UInt8) (last : Bool) : List Pt := if last = true then stepL l r else stepP l r
theorem mAll_end (l : List Pt) (r : List UInt8) (last : Bool) : mAll l r last 8 = stepX l r last := by
  cases last
  · exact mAll_free l r
  · exact mAll_last l r
@[simp] theorem stepX_len (l : List Pt) (r : List UInt8) (last : Bool) : (stepX l r last).length = 4 := by unfold stepX; split <;> simp
end G294
namespace Go.Proofs.Ytjgmegfbfjmnfaa
open Go.RowKit G294

set_option maxRecDepth 100000 in
set_option maxHeartbeats 4000000 in
theorem l10Step_own (v : Value) (l : List Pt) (r : List UInt8) (last : Bool) (n : Nat) (m : Int) (w : World) (hv : SeenP w v l) (hl : l.length = 4) (hr : r.length = 3)
    (hok : ∀ f, f < 4 → okP n m (l.getD f noP)) (hn : n ≤ 1000) (hm1 : -1 ≤ m) (hm2 : m ≤ 1000000) :
    Calls Try.prog 45 #[v, .string (str r), .bool last] w (RetPts 25 w (stepX l r last)) := by
  obtain ⟨A, c, rfl, hlc, hcm, hx⟩ := hv
  rw [hl] at hlc hx ⊢
  unfold maxLen at hcm
  have HX := Lib.hid (hx (by omega))
  have HOK := Lib.hid hok
  have HL := Lib.hid hl
  have HR := Lib.hid hr
  have HM := Lib.hid (fun k => mAll_len l r last k)
  have HMN := Lib.hid (fun st b (hb : b < 2) => mAll_next l r last st b hb)
  have HME := Lib.hid (mAll_end l r last)
  have HM0 : Hid (mAll l r last 0 = [noP, noP, noP, noP]) := Lib.hid rfl
  have HSK : Hid (∀ (out : List Pt) (st b : Nat), ((l.getD st noP).2 < 0 ∨ (last = true ∧ b = 1)) → mStep l r last out st b = out) := fun _ _ _ h => ms_skip h
  have HTK : Hid (∀ (out : List Pt) (st b : Nat), ¬ ((l.getD st noP).2 < 0 ∨ (last = true ∧ b = 1)) → betterP (cand (l.getD st noP) st b r) (out.getD (nxtN st b) noP) = true → mStep l r last out st b = out.set (nxtN st b) (cand (l.getD st noP) st b r)) := fun _ _ _ h h' => ms_take h h'
  have HKP : Hid (∀ (out : List Pt) (st b : Nat), ¬ ((l.getD st noP).2 < 0 ∨ (last = true ∧ b = 1)) → betterP (cand (l.getD st noP) st b r) (out.getD (nxtN st b) noP) = false → mStep l r last out st b = out) := fun _ _ _ h h' => ms_keep h h'
  have hO0 := World.ownsRow_lit (base := w.heap.size) (e := 25) (size := 2) w #[.string ⟨#[]⟩, .int .i64 (-1), .string ⟨#[]⟩, .int .i64 (-1), .string ⟨#[]⟩, .int .i64 (-1), .string ⟨#[]⟩, .int .i64 (-1)] 4 (Nat.le_refl _) (by unfold maxLen; omega) (by simp)
  have HO0 : Hid ((w.alloc (.cells #[.string ⟨#[]⟩, .int .i64 (-1), .string ⟨#[]⟩, .int .i64 (-1), .string ⟨#[]⟩, .int .i64 (-1), .string ⟨#[]⟩, .int .i64 (-1)] 25)).ownsRow w.heap.size 25 2 (.slice (some ⟨w.heap.size, 0, none⟩) 4 4) 4 (pts (mAll l r last (2 * 0)))) := by
    show World.ownsRow _ _ _ _ _ _ _
    rw [Nat.mul_zero, HM0.out]; exact hO0
  have HB0 := Lib.hid ((Below.refl w.heap.size w).alloc (Nat.le_refl _) (.cells #[.string ⟨#[]⟩, .int .i64 (-1), .string ⟨#[]⟩, .int .i64 (-1), .string ⟨#[]⟩, .int .i64 (-1), .string ⟨#[]⟩, .int .i64 (-1)] 25))
  generalize mAll l r last = MM at *
  clear hx hl hr hok hO0
  have HLD : Hid (∀ k, k < 4 → l[k]? = some (l.getD k noP)) := fun k hk => by
    have e := HL.out
    rw [List.getD_eq_getElem?_getD, List.getElem?_eq_getElem (by omega)]; rfl
  have HOUT0 := Lib.hid (fun k b W (hk : k < 4) (hb : b < 2) => l10Out_any k b W hk hb)
  have HBIT0 := Lib.hid (fun b W (hb : b < 2) => l10Bit_own b W hb)
  have HUNL0 := Lib.hid (fun k b W => l10Unlike_own (outN k b) r W (by rw [outN_len, HR.out]) (by simp))
  go_enter Try.func45, Try.ntmps45
  go_wp2_with fail
  generalize (w.alloc (.cells #[.string ⟨#[]⟩, .int .i64 (-1), .string ⟨#[]⟩, .int .i64 (-1), .string ⟨#[]⟩, .int .i64 (-1), .string ⟨#[]⟩, .int .i64 (-1)] 25)) = w0 at *
  go_loopw [21] (fun i wr => ∃ k : Nat, k ≤ 4 ∧ i = .int .i64 k ∧ Hid (wr.ownsRow w.heap.size 25 2 (.slice (some ⟨w.heap.size, 0, none⟩) 4 4) 4 (pts (MM (2 * k)))) ∧ Hid (Below w.heap.size w wr)) (fun i _ => 4 - (intOf i).toNat)
  case atStart => exact ⟨0, Nat.zero_le _, rfl, HO0, HB0⟩
  case round =>
    obtain ⟨k, hk, rfl, HO, HB⟩ := hrel
    clear HO0 HB0
    by_cases hlt : k < 4
    · have hki : (k : Int) < 4 := by omega
      obtain ⟨b, off, rfl, hbl, hcell⟩ := HX.out
      have hc := hcell k _ (HLD.out k hlt)
      have hc1 := (HB.out.cell (p := ⟨b, off + k * 2, none⟩) hbl).trans hc.1
      have hc2 := (HB.out.cell (p := ⟨b, off + k * 2 + 1, none⟩) hbl).trans hc.2
      have hok := HOK.out k hlt
      have HSK2 := Lib.hid (fun out b => HSK.out out k b)
      have HTK2 := Lib.hid (fun out b => HTK.out out k b)
      have HKP2 := Lib.hid (fun out b => HKP.out out k b)
      generalize hp : l.getD k noP = p at *
      obtain ⟨s, y⟩ := p
      simp only at hc1 hc2
      have a5 := turn_alloc wr (.cells #[.string (str s), .int .i64 y] 25)
      have YP0 := Lib.hid (boxV2_new wr (.string (str s)) (.int .i64 y) 25)
      have HO5 := Lib.hid (owns_turn0 HO.out a5)
      have HB5 := Lib.hid (a5.base HB.out HB.out.size (by omega))
      have hwr := (HO.out.lt w.heap.size rfl).2
      clear hcell hc a5 HO
      go_wp2_with fail
      obtain ⟨B9, hB9⟩ : ∃ B, B = wr.heap.size := ⟨_, rfl⟩
      have hB9' : w.heap.size < B9 := by omega
      generalize (wr.alloc (.cells #[.string (str s), .int .i64 y] 25)) = w5 at *
      rw [← hB9] at YP0 ⊢
      clear hB9 hc1 hc2 HB hwr
      generalize wr = wz at *
      go_loopw [10] (fun i wr => ∃ b : Nat, b ≤ 2 ∧ i = .int .i64 b ∧ Hid (wr.ownsRow w.heap.size 25 2 (.slice (some ⟨w.heap.size, 0, none⟩) 4 4) 4 (pts (MM (2 * k + b)))) ∧ Hid (BoxV2 B9 (.string (str s)) (.int .i64 y) wr) ∧ Hid (Below w.heap.size w wr)) (fun i _ => 2 - (intOf i).toNat)
      case atStart => exact ⟨0, Nat.zero_le _, rfl, HO5, YP0, HB5⟩
      case round =>
        obtain ⟨b, hb, rfl, HO6, YP, HB6⟩ := hrel
        clear HO5 YP0 HB5
        by_cases hltb : b < 2
        · have hbi : (b : Int) < 2 := by omega
          have c0 := YP.out.c0
          have c1 := YP.out.c1
          have HMX := Lib.hid (HMN.out k b hltb)
          by_cases hy : y < 0
          · have hyd : decide (y < 0) = true := by simpa using hy
            have HSAME : Hid (MM (2 * k + b + 1) = MM (2 * k + b)) := by show _ = _; rw [HMX.out]; exact HSK2.out _ b (.inl hy)
            have HO7 : Hid (wr.ownsRow w.heap.size 25 2 (.slice (some ⟨w.heap.size, 0, none⟩) 4 4) 4 (pts (MM (2 * k + (b + 1))))) := by show World.ownsRow _ _ _ _ _ _ _; rw [← Nat.add_assoc, HSAME.out]; exact HO6.out
            clear hy
            go_wp2_with fail
            go_roundw
            case rel => exact ⟨b + 1, by omega, by go_num, HO7, YP, HB6⟩
            case measure => simp [intOf]; omega
          have hyd : decide (y < 0) = false := by simpa using hy
          by_cases hlb : last = true ∧ b = 1
          · obtain ⟨rfl, rfl⟩ := hlb
            have HSAME : Hid (MM (2 * k + 1 + 1) = MM (2 * k + 1)) := by show _ = _; rw [HMX.out]; exact HSK2.out _ 1 (.inr ⟨rfl, rfl⟩)
            have HO7 : Hid (wr.ownsRow w.heap.size 25 2 (.slice (some ⟨w.heap.size, 0, none⟩) 4 4) 4 (pts (MM (2 * k + (1 + 1))))) := by show World.ownsRow _ _ _ _ _ _ _; rw [← Nat.add_assoc, HSAME.out]; exact HO6.out
            go_wp2_with fail
            go_roundw
            case rel => exact ⟨1 + 1, by omega, by go_num, HO7, YP, HB6⟩
            case measure => simp [intOf]
          · have hgo : (last = false ∧ True) ∨ (last = true ∧ ((b : Int) == 1) = false) := by
              cases last
              · exact .inl ⟨rfl, trivial⟩
              · refine .inr ⟨rfl, ?_⟩
                rw [beq_eq_false_iff_ne]
                intro e
                exact hlb ⟨rfl, by omega⟩
            have hns : ¬ (y < 0 ∨ (last = true ∧ b = 1)) := fun e => e.elim hy hlb
            have HTK3 := Lib.hid (HTK2.out (MM (2 * k + b)) b hns)
            have HKP3 := Lib.hid (HKP2.out (MM (2 * k + b)) b hns)
            rw [← HMX.out] at HTK3 HKP3
            have HOUT := Lib.hid (fun W => HOUT0.out k b W hlt hltb)
            have HBIT := Lib.hid (fun W => HBIT0.out b W hltb)
            have HUNL := Lib.hid (fun W => HUNL0.out k b W)
            have hdl : dl (outN k b) r ≤ 3 := dl_le
            have HCD : Hid (cand (s, y) k b r = (s ++ [chB b], y + (dl (outN k b) r : Nat))) := Lib.hid rfl
            have hnx : nxtN k b < 4 := nxtN_lt hlt hltb
            have y2c := hok.2.1
            have y3c := hok.2.2
            simp only at y2c y3c
            have hz1 : (str s).size ≤ 1000 := by rw [str_size]; have := hok.1; simp only at this; omega
            generalize hDD : dl (outN k b) r = D at *
            generalize outN k b = oo at *
            generalize nxtN k b = nx at *
            have hww : IntKind.i64.wrap (y + (D : Int)) = y + (D : Int) := IntWalk.i64_in _ (by omega)
            have hz2 : (str [chB b]).size = 1 := by rw [str_size]; rfl
            have hz3 : ¬ 9223372036854775807 < (str s).size + 1 := by omega
            have HAP : Hid (str s ++ str [chB b] = str (s ++ [chB b])) := str_append _ _
            generalize s ++ [chB b] = x1 at *
            have hap : str s ++ str [chB b] = str x1 := HAP.out
            have hlP := YP.out.lt
            clear hns hlb hy hDD HSK2 HTK2 HKP2
            rcases hgo with ⟨rfl, -⟩ | ⟨rfl, hd2⟩
            all_goals
              go_wp2_with fail
              refine (HOUT.out _).mono ?_
              rintro e w10 ⟨rfl, k10⟩
              have HO7 := Lib.hid (owns_turn0 HO6.out k10)
              have YP7 := Lib.hid (YP.out.keep k10 (by omega))
              have HB7 := Lib.hid (k10.base HB6.out HB6.out.size (by omega))
              have s10 := k10.size
              have q0 := cell_turn k10 c0 hlP
              have q1 := cell_turn k10 c1 hlP
              have hlP7 := YP7.out.lt
              go_wp2_with fail
              go_cut [13] from 46 to 57 (fun q wx => NewX w10 (x1, y + (D : Int)) q wx)
              case first =>
                have hS0 : Below w10.heap.size w10 w10.drew ∧ w10.drew.cell? ⟨B9, 0, none⟩ = some (.string (str s)) ∧ w10.drew.cell? ⟨B9, 1, none⟩ = some (.int .i64 y) := ⟨(Below.refl _ _).drew, q0, q1⟩
                have HSX : Hid (∀ W, Below w10.heap.size w10 W → (Below w10.heap.size w10 W ∧ W.cell? ⟨B9, 0, none⟩ = some (.string (str s)) ∧ W.cell? ⟨B9, 1, none⟩ = some (.int .i64 y))) := Lib.hid (fun W hb => ⟨hb, (hb.cell (p := ⟨B9, 0, none⟩) hlP7).trans q0, (hb.cell (p := ⟨B9, 1, none⟩) hlP7).trans q1⟩)
                go_region_held3 (fun W => Below w10.heap.size w10 W ∧ W.cell? ⟨B9, 0, none⟩ = some (.string (str s)) ∧ W.cell? ⟨B9, 1, none⟩ = some (.int .i64 y))
                  (first | exact hS0 | exact HSX.out _ ((Below.refl _ _).alloc (Nat.le_refl _) _) | exact HSX.out _ ((Below.refl _ _).alloc (Nat.le_refl _) _).drew | exact HSX.out _ hb11 | exact HSX.out _ (hb11.alloc hb11.size _) | exact HSX.out _ hb12 | exact HSX.out _ (hb12.alloc hb12.size _) | exact HSX.out _ ((hb12.setCell (p := ⟨w10.heap.size, 0, none⟩) (Nat.le_refl _) _).setCell (p := ⟨w10.heap.size, 1, none⟩) (Nat.le_refl _) _) | exact HSX.out _ ((hb12.setCell (p := ⟨w11.heap.size, 0, none⟩) hb11.size _).setCell (p := ⟨w11.heap.size, 1, none⟩) hb11.size _))
                  (first
                    | (go_at_call 67; (with_reducible refine (HBIT.out _).mono ?_); rintro e' w11 ⟨rfl, k11⟩; have hb11 : Below w10.heap.size w10 w11 := k11.base (And.left (by assumption)) (Below.size (And.left (by assumption))) (by omega); (first | (have fb : BoxV2 w10.heap.size (.string ⟨#[]⟩) (.int .i64 0) w11 := (by first | exact boxV2_made (T := 25) k11 | exact boxV2_made (T := 25) (undrewV k11)); obtain ⟨b0, b1, bf0, bf1, bl⟩ := fb) | skip))
                    | (go_at_call 64; (with_reducible refine (HUNL.out _).mono ?_); rintro e' w12 ⟨rfl, k12⟩; have hb12 : Below w10.heap.size w10 w12 := k12.base (And.left (by assumption)) (Below.size (And.left (by assumption))) (by omega); (first | (have fb := BoxV2.keep ⟨b0, b1, bf0, bf1, bl⟩ k12 (by omega); obtain ⟨b0, b1, bf0, bf1, bl⟩ := fb) | (have fb : BoxV2 w11.heap.size (.string ⟨#[]⟩) (.int .i64 0) w12 := boxV2_made (T := 25) k12; obtain ⟨b0, b1, bf0, bf1, bl⟩ := fb) | skip)))
                all_goals
                  go_wp2_with fail
                  go_meet
                  first
                    | exact newX_new (TurnIn.of_below hb12)
                    | exact newX_set ⟨b0, b1, bf0, bf1, bl⟩ (Nat.le_refl _) (TurnIn.of_below hb12)
                    | exact newX_set ⟨b0, b1, bf0, bf1, bl⟩ hb11.size (TurnIn.of_below hb12)
              case rest =>
                obtain ⟨B13, rfl, bx, hB13, k13⟩ := hcut
                have hx2 : -1 ≤ y + (D : Int) := by omega
                generalize hwc : wc = w13 at *
                generalize y + (D : Int) = x2 at *
                have HO8 := Lib.hid (owns_turn0 HO7.out k13)
                have YP8 := Lib.hid (YP7.out.keep k13 (by omega))
                have HB8 := Lib.hid (k13.base HB7.out HB7.out.size (by omega))
                have HBX := Lib.hid bx
                have s13 := k13.size
                have hml := HM.out (2 * k + b)
                have hnl : nx < (MM (2 * k + b)).length := by rw [hml]; exact hnx
                have o0 : w13.cell? ⟨w.heap.size, nx * 2, none⟩ = some (.string (str ((MM (2 * k + b)).getD nx noP).1)) := by rw [HO8.out.cellAt (nx * 2) (by omega), pts_bits _ nx hnl, getD_len hnl]
                have o1 : w13.cell? ⟨w.heap.size, nx * 2 + 1, none⟩ = some (.int .i64 ((MM (2 * k + b)).getD nx noP).2) := by rw [HO8.out.cellAt (nx * 2 + 1) (by omega), pts_cost _ nx hnl, getD_len hnl]
                generalize hgo : (MM (2 * k + b)).getD nx noP = go at *
                obtain ⟨os, oy⟩ := go
                simp only at o0 o1
                have e0 := bx.c0
                have e1 := bx.c1
                have el := bx.lt
                have hnxi : (nx : Int) < 4 := by omega
                have hwl : w.heap.size < w13.heap.size := by have := HB8.out.size; omega
                have HBE : Hid (∀ W, Calls Try.prog 68 #[.agg #[.string (str x1), .int .i64 x2], .agg #[.string (str os), .int .i64 oy]] W (RetBool W (betterP (x1, x2) (os, oy)))) := fun W => l10Better_own (x1, x2) (os, oy) W
                have HNL := Lib.hid hnl
                clear hwc hml hnl hgo k13 bx HO7 YP7 HB7 q0 q1 k10 HOUT HBIT HUNL
                go_wp2_with fail
                go_cut [63] from 58 to 62 (fun q wx => q = .bool (betterP (x1, x2) (os, oy)) ∧ TurnIn 0 0 w13 wx)
                case first =>
                  have S0 : w13.cell? ⟨B13, 0, none⟩ = some (.string (str x1)) ∧ w13.cell? ⟨B13, 1, none⟩ = some (.int .i64 x2) ∧ w13.cell? ⟨w.heap.size, nx * 2, none⟩ = some (.string (str os)) ∧ w13.cell? ⟨w.heap.size, nx * 2 + 1, none⟩ = some (.int .i64 oy) := ⟨e0, e1, o0, o1⟩
                  go_region_held3 (fun W => W.cell? ⟨B13, 0, none⟩ = some (.string (str x1)) ∧ W.cell? ⟨B13, 1, none⟩ = some (.int .i64 x2) ∧ W.cell? ⟨w.heap.size, nx * 2, none⟩ = some (.string (str os)) ∧ W.cell? ⟨w.heap.size, nx * 2 + 1, none⟩ = some (.int .i64 oy))
                    (first | exact S1 | exact S0)
                    ((go_at_call 68; (with_reducible refine (HBE.out _).mono ?_); rintro e w14 ⟨rfl, k14⟩; have j14 : TurnIn 0 0 w13 w14 := ⟨k14.os, k14.tape, k14.output, k14.size, k14.block⟩; have S1 : w14.cell? ⟨B13, 0, none⟩ = some (.string (str x1)) ∧ w14.cell? ⟨B13, 1, none⟩ = some (.int .i64 x2) ∧ w14.cell? ⟨w.heap.size, nx * 2, none⟩ = some (.string (str os)) ∧ w14.cell? ⟨w.heap.size, nx * 2 + 1, none⟩ = some (.int .i64 oy) := ⟨cell_turn j14 e0 el, cell_turn j14 e1 el, cell_turn j14 o0 hwl, cell_turn j14 o1 hwl⟩))
                  all_goals
                    go_wp2_with fail
                    go_meet
                    exact ⟨rfl, j14⟩
                case rest =>
                  obtain ⟨rfl, k14⟩ := hcut
                  generalize hwd : wc = w14 at *
                  have HO9 := Lib.hid (owns_turn0 HO8.out k14)
                  have YP9 := Lib.hid (YP8.out.keep k14 (by omega))
                  have HB9 := Lib.hid (k14.base HB8.out HB8.out.size (by omega))
                  have e0' := cell_turn k14 e0 el
                  have e1' := cell_turn k14 e1 el
                  have o0' := cell_turn k14 o0 hwl
                  have o1' := cell_turn k14 o1 hwl
                  have of0 := HO9.out.frozenAt (nx * 2)
                  have of1 := HO9.out.frozenAt (nx * 2 + 1)
                  clear hwd e0 e1 o0 o1 HBE HO8 YP8 HB8 k14
                  rw [HCD.out] at HTK3 HKP3
                  generalize betterP (x1, x2) (os, oy) = bt at *
                  cases bt
                  case true =>
                    have HN := Lib.hid (HTK3.out rfl)
                    have hst := HO9.out.stored (nx * 2) (.string (str x1))
                    have hst2 := hst.1.stored (nx * 2 + 1) (.int .i64 x2)
                    rw [pts_set _ nx (x1, x2) HNL.out, ← HN.out] at hst2
                    have HST := Lib.hid hst2.1
                    have tt := turn_set2o w14 w.heap.size (nx * 2) (nx * 2 + 1) (.string (str x1)) (.int .i64 x2)
                    have YPa := Lib.hid (YP9.out.keep tt (by omega))
                    have HBa := Lib.hid ((HB9.out.setCell (p := ⟨w.heap.size, nx * 2, none⟩) (Nat.le_refl _) (.string (str x1))).setCell (p := ⟨w.heap.size, nx * 2 + 1, none⟩) (Nat.le_refl _) (.int .i64 x2))
                    clear hst hst2 tt
                    go_wp2_with fail
                    go_roundw
                    case rel => exact ⟨b + 1, by omega, by go_num, HST, YPa, HBa⟩
                    case measure => simp [intOf]; omega
                  case false =>
                    have HN := Lib.hid (HKP3.out rfl)
                    have HST : Hid (w14.ownsRow w.heap.size 25 2 (.slice (some ⟨w.heap.size, 0, none⟩) 4 4) 4 (pts (MM (2 * k + (b + 1))))) := by show World.ownsRow _ _ _ _ _ _ _; rw [← Nat.add_assoc, HN.out]; exact HO9.out
                    go_wp2_with fail
                    go_roundw
                    case rel => exact ⟨b + 1, by omega, by go_num, HST, YP9, HB9⟩
                    case measure => simp [intOf]; omega
        · obtain rfl : b = 2 := by omega
          have hbi : ¬ ((2 : Nat) : Int) < 2 := by omega
          go_wp2_with fail
          go_roundw
          case rel => exact ⟨k + 1, by omega, by go_num, HO6, HB6⟩
          case measure => simp [intOf]; omega
    · obtain rfl : k = 4 := by omega
      have hki : ¬ ((4 : Nat) : Int) < 4 := by omega
      have HF : Hid (OwnP 25 wr w.heap.size wr.heap.size (.slice (some ⟨w.heap.size, 0, none⟩) 4 4) (stepX l r last)) := by
        have h := HO.out
        rw [show 2 * 4 = 8 from rfl, HME.out] at h
        exact ⟨by rw [stepX_len]; exact h, Nat.le_refl _, fun g e => (h.lt g e).2⟩
      go_wp2_with fail
      go_ret
      exact ⟨_, rfl, HF.out, TurnIn.of_below HB.out⟩

end Go.Proofs.Ytjgmegfbfjmnfaa

/- Shapes of codes: the program's goodDataCount and GoodShape, the model's GoodShape. -/
namespace G294
open Go Go.RowKit
def dataOk (k : Int) : Bool := decide (1 ≤ k ∧ k ≤ 8)
def shapeOk (k m : Int) : Bool := dataOk k && decide (1 ≤ m ∧ m ≤ 6)
theorem shapeOk_b {k m : Int} (h : shapeOk k m = true) : (1 ≤ k ∧ k ≤ 8) ∧ 1 ≤ m ∧ m ≤ 6 := by simpa [shapeOk, dataOk] using h
end G294
namespace Go.Proofs.Ytjgmegfbfjmnfaa
open Go.RowKit G294

end Go.Proofs.Ytjgmegfbfjmnfaa

/- The mathematics of SplitText and JoinShards. -/
namespace G294
open Go Go.RowKit
/-- the length of a part -/
def partSize (n k : Nat) : Nat := (n + k - 1) / k
def padded (s : List UInt8) (k : Nat) : List UInt8 := s ++ List.replicate (k * partSize s.length k - s.length) 0
def splitP (s : List UInt8) (k : Nat) (i : Nat) : List UInt8 := ((padded s k).drop (i * partSize s.length k)).take (partSize s.length k)
def splitL (s : List UInt8) (k : Nat) : List (List UInt8) := (List.range k).map (splitP s k)
def splitOk (s : List UInt8) (k : Int) : Bool := dataOk k && decide ((s.length : Int) ≤ k * 40)
def splitR (s : List UInt8) (k : Int) : List (List UInt8) := if splitOk s k then splitL s k.toNat else []
theorem partSize_mul (n k : Nat) (hk : 1 ≤ k) : n ≤ k * partSize n k := by
  unfold partSize
  have h := Nat.div_add_mod (n + k - 1) k
  have h2 := Nat.mod_lt (n + k - 1) (show 0 < k by omega)
  omega
theorem partSize_le (n k : Nat) (hk : 1 ≤ k) (h : n ≤ k * 40) : partSize n k ≤ 40 := by
  unfold partSize
  have h1 : n + k - 1 < 41 * k := by omega
  have := (Nat.div_lt_iff_lt_mul (show 0 < k by omega)).2 h1
  omega
theorem padded_length (s : List UInt8) (k : Nat) (hk : 1 ≤ k) : (padded s k).length = k * partSize s.length k := by
  have := partSize_mul s.length k hk
  simp [padded]; omega
theorem splitP_length (s : List UInt8) (k i : Nat) (hk : 1 ≤ k) (hi : i < k) : (splitP s k i).length = partSize s.length k := by
  unfold splitP
  rw [List.length_take, List.length_drop, padded_length s k hk]
  have : (i + 1) * partSize s.length k ≤ k * partSize s.length k := Nat.mul_le_mul_right _ hi
  rw [Nat.add_mul] at this
  omega
@[simp] theorem splitL_length (s : List UInt8) (k : Nat) : (splitL s k).length = k := by simp [splitL]
theorem splitL_succ (s : List UInt8) (k i : Nat) : (List.range (i + 1)).map (splitP s k) = (List.range i).map (splitP s k) ++ [splitP s k i] := by simp [List.range_succ]
theorem extract_str (l : List UInt8) (a b : Nat) : (str l).extract a b = str ((l.drop a).take (b - a)) := by
  apply ByteArray.ext
  rw [ByteArray.data_extract]
  apply Array.ext'
  simp [str]
end G294

/- Chapter 10: received bits, BestPaths, DecodeBits: the model's. -/
namespace G294
open Go Go.RowKit
def RetPtOk (w : World) (p : Pt) (ok : Bool) (e : Ending) (w' : World) : Prop := e = .returned (.tuple #[.agg #[.string (str p.1), .int .i64 p.2], .bool ok]) ∧ TurnIn 0 0 w w'
theorem BoxV2.set0 {B : Nat} {x y : Value} {W : World} (h : BoxV2 B x y W) (p : Value) : BoxV2 B p y (W.setCell ⟨B, 0, none⟩ p) := boxV2_set0 h p
def decX (r : List UInt8) (n : Nat) : Nat → List Pt
  | 0 => pathsN r n
  | j + 1 => stepL (decX r n j) ((r.drop (3 * (n + j))).take 3)
theorem decX_two (r : List UInt8) (n : Nat) : (decX r n 2).getD 0 noP = (pathsN r (n + 2)).getD 0 noP := stepL_two (pathsN r n) _ _
@[simp] theorem decX_len (r : List UInt8) (n j : Nat) : (decX r n j).length = 4 := by
  cases j
  · exact pathsN_len r n
  · rfl
theorem okP_stepL {n : Nat} {m : Int} {l : List Pt} (hm : -1 ≤ m) (h : ∀ f, f < 4 → okP n m (l.getD f noP)) (r : List UInt8) : ∀ f, f < 4 → okP (n + 1) (m + 3) ((stepL l r).getD f noP) := fun f hf => by
  match f, hf with
  | 0, _ => exact okP_up hm h r 0 4 (Nat.le_refl _)
  | 1, _ => exact okP_up hm h r 1 4 (Nat.le_refl _)
  | 2, _ => exact okP_no _ (by omega)
  | 3, _ => exact okP_no _ (by omega)
theorem okP_decX (r : List UInt8) (n : Nat) : ∀ j f, f < 4 → okP (n + j) (3 * n + 3 * j) ((decX r n j).getD f noP)
  | 0, f, hf => okP_mono (okP_paths r n f hf) (by omega) (by omega)
  | j + 1, f, hf => by
    have := okP_stepL (show -1 ≤ (3 * n + 3 * j : Int) by omega) (okP_decX r n j) ((r.drop (3 * (n + j))).take 3) f hf
    exact okP_mono this (by omega) (by omega)
theorem bstR_yes {r : List UInt8} {n : Nat} (h : recOk r = true) (hn : r.length = 3 * (n + 2)) : bstR r = pathsN r n := by
  unfold bstR; rw [if_pos h, show r.length / 3 - 2 = n by omega]
theorem bstR_len (r : List UInt8) : (bstR r).length ≤ 4 := by
  unfold bstR; split <;> simp
theorem bstR_no {r : List UInt8} (h : recOk r = false) : bstR r = [] := if_neg (by rw [h]; decide)
theorem dcdR_no {r : List UInt8} (h : recOk r = false) : dcdR r = ([], 0) := if_neg (by rw [h]; decide)
theorem dcdR_yes {r : List UInt8} {n : Nat} (h : recOk r = true) (hn : r.length = 3 * (n + 2)) : dcdR r = (((pathsN r (n + 2)).getD 0 noP).1.take n, ((pathsN r (n + 2)).getD 0 noP).2) := by
  unfold dcdR; rw [if_pos h, show r.length / 3 = n + 2 by omega]; rfl
theorem path0_len {r : List UInt8} {n : Nat} (hn : r.length = 3 * (n + 2)) : ((pathsN r (n + 2)).getD 0 noP).1.length = n + 2 := (best_zero r (n + 2) (by omega)).1.2.1
theorem recOk_iff (r : List UInt8) : recOk r = (bitsOk r 96 && (decide (r.length % 3 = 0) && decide (6 ≤ r.length))) := rfl
end G294
namespace Go.Proofs.Ytjgmegfbfjmnfaa
open Go.RowKit G294

set_option maxHeartbeats 1000000 in
theorem l10Received_any (r : List UInt8) (w : World) (hs : r.length ≤ 1000000000000) : Calls Try.prog 43 #[.string (str r)] w fun e w' => e = .returned (.bool (recOk r)) ∧ w = w' := by
  have hsz : (str r).size = r.length := str_size r
  have HD := Lib.hid (recOk_iff r)
  have HB := Lib.hid (fun W => l10Bits_any r 96 W hs)
  generalize hnn : r.length = n at *
  clear hnn
  by_cases h1 : bitsOk r 96 = true
  · have H1 := Lib.hid h1
    clear h1
    have hrm : ((n : Nat) : Int).tmod 3 = ((n % 3 : Nat) : Int) := by rw [Int.tmod_eq_emod_of_nonneg (by omega)]; omega
    have hrm2 : (n : Int) % 3 = ((n % 3 : Nat) : Int) := by omega
    by_cases h2 : n % 3 = 0
    · have hd2 : (((n % 3 : Nat) : Int) == 0) = true := by simp [h2]
      have hd2' : ((n : Int) % 3 == 0) = true := by rw [hrm2]; exact hd2
      have HE : Hid (recOk r = decide (6 ≤ n)) := by show _ = _; rw [HD.out, H1.out]; simp [h2]
      clear hrm hrm2 h2 hd2
      by_cases h3 : 6 ≤ n
      · have hd3 : decide ((6 : Int) ≤ (n : Int)) = true := by simp; omega
        have hd3n : decide (6 ≤ n) = true := by simpa using h3
        go_enter Try.func43, Try.ntmps43
        go_wp2_with fail
        refine (HB.out _).mono ?_
        rintro e w' ⟨rfl, rfl⟩
        rw [H1.out]
        go_wp2_with fail
        go_ret
        exact ⟨by rw [HE.out]; simp [h3], rfl⟩
      · have hd3 : decide ((6 : Int) ≤ (n : Int)) = false := by simp; omega
        have hd3n : decide (6 ≤ n) = false := by simpa using h3
        go_enter Try.func43, Try.ntmps43
        go_wp2_with fail
        refine (HB.out _).mono ?_
        rintro e w' ⟨rfl, rfl⟩
        rw [H1.out]
        go_wp2_with fail
        go_ret
        exact ⟨by rw [HE.out]; simp [h3], rfl⟩
    · have hd2 : (((n % 3 : Nat) : Int) == 0) = false := by rw [beq_eq_false_iff_ne]; omega
      have hd2' : ((n : Int) % 3 == 0) = false := by rw [hrm2]; exact hd2
      have HE : Hid (recOk r = false) := by show _ = _; rw [HD.out, H1.out]; simp [h2]
      clear hrm hrm2 h2 hd2
      go_enter Try.func43, Try.ntmps43
      go_wp2_with fail
      refine (HB.out _).mono ?_
      rintro e w' ⟨rfl, rfl⟩
      rw [H1.out]
      go_wp2_with fail
      go_ret
      exact ⟨by rw [HE.out]; rfl, rfl⟩
  · have H1 : Hid (bitsOk r 96 = false) := by show bitsOk r 96 = false; simpa using h1
    have HE : Hid (recOk r = false) := by show _ = _; rw [HD.out, H1.out]; rfl
    clear h1
    go_enter Try.func43, Try.ntmps43
    go_wp2_with fail
    refine (HB.out _).mono ?_
    rintro e w' ⟨rfl, rfl⟩
    rw [H1.out]
    go_wp2_with fail
    go_ret
    exact ⟨by rw [HE.out]; rfl, rfl⟩

set_option maxRecDepth 100000 in
set_option maxHeartbeats 2000000 in
theorem l10Paths_own (r : List UInt8) (n : Nat) (w : World) (hr : r.length = 3 * (n + 2)) (hn : n ≤ 30) : Calls Try.prog 44 #[.string (str r)] w (RetPts 25 w (pathsN r n)) := by
  have hsz : (str r).size = 3 * n + 6 := by rw [str_size, hr]; omega
  have hO0 := World.ownsRow_lit (base := w.heap.size) (e := 25) (size := 2) w #[.string ⟨#[]⟩, .int .i64 0, .string ⟨#[]⟩, .int .i64 (-1), .string ⟨#[]⟩, .int .i64 (-1), .string ⟨#[]⟩, .int .i64 (-1)] 4 (Nat.le_refl _) (by unfold maxLen; omega) (by simp)
  have HO0 : Hid (OwnP 25 (w.alloc (.cells #[.string ⟨#[]⟩, .int .i64 0, .string ⟨#[]⟩, .int .i64 (-1), .string ⟨#[]⟩, .int .i64 (-1), .string ⟨#[]⟩, .int .i64 (-1)] 25)) w.heap.size (w.alloc (.cells #[.string ⟨#[]⟩, .int .i64 0, .string ⟨#[]⟩, .int .i64 (-1), .string ⟨#[]⟩, .int .i64 (-1), .string ⟨#[]⟩, .int .i64 (-1)] 25)).heap.size (.slice (some ⟨w.heap.size, 0, none⟩) 4 4) (pathsN r 0)) :=
    ⟨hO0, Nat.le_refl _, fun g e => (hO0.lt g e).2⟩
  have HB0 := Lib.hid ((Below.refl w.heap.size w).alloc (Nat.le_refl _) (.cells #[.string ⟨#[]⟩, .int .i64 0, .string ⟨#[]⟩, .int .i64 (-1), .string ⟨#[]⟩, .int .i64 (-1), .string ⟨#[]⟩, .int .i64 (-1)] 25))
  have HST := Lib.hid (fun j W v (hv : SeenP W v (pathsN r j)) (hj : j < n) => l10Step_own v (pathsN r j) ((r.drop (3 * j)).take 3) false j (3 * j) W hv (pathsN_len r j) (by simp; omega) (okP_paths r j) (by omega) (by omega) (by omega))
  have HPN : Hid (∀ j, stepX (pathsN r j) ((r.drop (3 * j)).take 3) false = pathsN r (j + 1)) := fun j => rfl
  have HEX : Hid (∀ p, (str r).extract p (p + 3) = str ((r.drop p).take 3)) := fun p => by
    have := extract_str r p (p + 3)
    rw [Nat.add_sub_cancel_left] at this; exact this
  clear hO0 hr
  go_enter Try.func44, Try.ntmps44
  go_wp2_with fail
  generalize (w.alloc (.cells #[.string ⟨#[]⟩, .int .i64 0, .string ⟨#[]⟩, .int .i64 (-1), .string ⟨#[]⟩, .int .i64 (-1), .string ⟨#[]⟩, .int .i64 (-1)] 25)) = w0 at *
  go_loopw [3, 4] (fun vp i wr => ∃ j : Nat, j ≤ n ∧ i = .int .i64 ((3 * j : Nat) : Int) ∧ Hid (OwnP 25 wr w.heap.size wr.heap.size vp (pathsN r j)) ∧ Hid (Below w.heap.size w wr))
    (fun _ i _ => 3 * n - (intOf i).toNat)
  case atStart => exact ⟨0, Nat.zero_le _, rfl, HO0, HB0⟩
  case round =>
    obtain ⟨j, hj, rfl, HO, HB⟩ := hrel
    clear HO0 HB0
    obtain ⟨p, hp⟩ : ∃ p, p = 3 * j := ⟨_, rfl⟩
    have hs0 := hsz
    obtain ⟨N, hN⟩ : ∃ N, N = 3 * n + 6 := ⟨_, rfl⟩
    rw [← hN] at hsz
    rw [← hp]
    have hN96 : N ≤ 96 := by omega
    have hp96 : p ≤ 96 := by omega
    have hN6 : 6 ≤ N := by omega
    by_cases hlt : j < n
    · have hpi : (p : Int) + 3 ≤ (N : Int) - 6 := by omega
      have hp3 : (p : Int) + 3 ≤ (N : Int) := by omega
      have hex := HEX.out p
      have HSJ := Lib.hid (HST.out j wr _ HO.out.seen hlt)
      rw [HPN.out, ← hp] at HSJ
      have ht3 : ((p : Int) + 3).toNat = p + 3 := by omega
      have HP := Lib.hid hp
      have HN := Lib.hid hN
      clear hp hN hs0
      generalize str ((r.drop p).take 3) = tx at *
      go_wp2_with fail
      refine HSJ.out.mono ?_
      rintro e w4 ⟨v4, rfl, o4, k4⟩
      have HO4 : Hid (OwnP 25 w4 w.heap.size w4.heap.size v4 (pathsN r (j + 1))) := ⟨own_base o4.1 (by have := HB.out.size; omega), Nat.le_refl _, o4.2.2⟩
      have HB4 := Lib.hid (k4.base HB.out HB.out.size (by omega))
      clear o4 k4
      go_wp2_with fail
      go_roundw
      case rel => exact ⟨j + 1, by omega, by have := HP.out; go_num, HO4, HB4⟩
      case measure => have := HP.out; simp [intOf]; omega
    · obtain rfl : j = n := by omega
      have hpi : ¬ (p : Int) + 3 ≤ (N : Int) - 6 := by omega
      clear hp hN hs0
      go_wp2_with fail
      go_ret
      exact ⟨_, rfl, HO.out, TurnIn.of_below HB.out⟩

set_option maxRecDepth 100000 in
set_option maxHeartbeats 1000000 in
theorem sBestPaths_own (r : List UInt8) (w : World) (hs : r.length ≤ 1000000000000) : Calls Try.prog 17 #[.string (str r)] w (RetPtsOk 25 w (bstR r) (recOk r)) := by
  by_cases h : recOk r = true
  · have H := Lib.hid h
    obtain ⟨_, n, hn, h30, _⟩ := recOk_b h
    have HR := Lib.hid (bstR_yes h hn)
    have HP := Lib.hid (l10Paths_own r n w hn h30)
    clear h hn
    go_enter Try.func17, Try.ntmps17
    go_wp2_with fail
    refine (l10Received_any r _ hs).mono ?_
    rintro e w' ⟨rfl, rfl⟩
    rw [H.out]
    go_wp2_with fail
    refine HP.out.mono ?_
    rintro e w1 ⟨v1, rfl, o1, k1⟩
    have HO1 := Lib.hid o1
    clear o1
    go_wp2_with fail
    go_ret2
    exact ⟨_, by rw [H.out]; rfl, by rw [HR.out]; exact HO1.out, k1⟩
  · have H : Hid (recOk r = false) := by show recOk r = false; simpa using h
    have HR := Lib.hid (bstR_no H.out)
    clear h
    go_enter Try.func17, Try.ntmps17
    go_wp2_with fail
    refine (l10Received_any r _ hs).mono ?_
    rintro e w' ⟨rfl, rfl⟩
    rw [H.out]
    go_wp2_with fail
    go_ret2
    exact ⟨_, by rw [H.out]; rfl, by rw [HR.out]; exact OwnP.nil _ _ _, TurnIn.refl _⟩

set_option maxRecDepth 100000 in
set_option maxHeartbeats 2000000 in
theorem sDecodeBits_own (r : List UInt8) (w : World) (hs : r.length ≤ 1000000000000) : Calls Try.prog 15 #[.string (str r)] w (RetPtOk w (dcdR r) (recOk r)) := by
  have a1 := turn_alloc w (.cells #[.string ⟨#[]⟩, .int .i64 0] 25)
  have X0 := boxV2_new w (.string ⟨#[]⟩) (.int .i64 0) 25
  by_cases h : recOk r = true
  · have H := Lib.hid h
    obtain ⟨_, n, hn, h30, _⟩ := recOk_b h
    have HR := Lib.hid (dcdR_yes h hn)
    have HP := Lib.hid (fun W => l10Paths_own r n W hn h30)
    have hsz : (str r).size = 3 * n + 6 := by rw [str_size, hn]; omega
    have HST := Lib.hid (fun j W v (hv : SeenP W v (decX r n j)) (hj : j < 2) => l10Step_own v (decX r n j) ((r.drop (3 * (n + j))).take 3) true (n + j) (3 * n + 3 * j) W hv (decX_len r n j) (by simp; omega) (okP_decX r n j) (by omega) (by omega) (by omega))
    have HPN : Hid (∀ j, stepX (decX r n j) ((r.drop (3 * (n + j))).take 3) true = decX r n (j + 1)) := fun j => rfl
    have HEX : Hid (∀ p, (str r).extract p (p + 3) = str ((r.drop p).take 3)) := fun p => by
      have := extract_str r p (p + 3)
      rw [Nat.add_sub_cancel_left] at this; exact this
    have HRC := Lib.hid (fun W => l10Received_any r W hs)
    have HLEN := Lib.hid (path0_len hn)
    have HD0 : Hid (decX r n 0 = pathsN r n) := rfl
    have HD2 := Lib.hid (decX_two r n)
    have HDL := Lib.hid (decX_len r n 2)
    rw [HR.out]
    generalize hpp : (pathsN r (n + 2)).getD 0 noP = pp at *
    obtain ⟨ps, py⟩ := pp
    have HPS : Hid (∀ m, (str ps).extract 0 m = str (ps.take m)) := fun m => by
      have := extract_str ps 0 m
      simpa using this
    have hps : (str ps).size = n + 2 := by rw [str_size]; exact HLEN.out
    simp only
    clear h hn HR HLEN hpp hs
    go_enter Try.func15, Try.ntmps15
    go_wp2_with fail
    generalize (w.alloc (.cells #[.string ⟨#[]⟩, .int .i64 0] 25)) = w1 at *
    have HX0 := Lib.hid X0
    have HK1 := Lib.hid a1
    clear X0 a1
    refine (HRC.out _).mono ?_
    rintro e w' ⟨rfl, rfl⟩
    rw [H.out]
    go_wp2_with fail
    refine (HP.out _).mono ?_
    rintro e w2 ⟨v2, rfl, o2, k2⟩
    have s1 := HX0.out.lt
    have s2 := k2.size
    have HO2 : Hid (OwnP 25 w2 w1.heap.size w2.heap.size v2 (decX r n 0)) := o2
    have HK2 := Lib.hid k2
    clear o2 k2
    go_wp2_with fail
    have HK2' : Hid (TurnIn 0 0 w1 w2) := HK2.out
    go_loopw [4, 5] (fun vp i wr => ∃ j : Nat, j ≤ 2 ∧ i = .int .i64 ((3 * n + 3 * j : Nat) : Int) ∧ Hid (OwnP 25 wr w1.heap.size wr.heap.size vp (decX r n j)) ∧ Hid (TurnIn 0 0 w1 wr))
      (fun _ i _ => 3 * n + 6 - (intOf i).toNat)
    case atStart => exact ⟨0, Nat.zero_le _, by go_num, HO2, HK2'⟩
    case round =>
      obtain ⟨j, hj, rfl, HO, HK⟩ := hrel
      clear HO2 HK2 HK2'
      obtain ⟨p, hp⟩ : ∃ p, p = 3 * (n + j) := ⟨_, rfl⟩
      have hp' : 3 * n + 3 * j = p := by omega
      rw [hp']
      obtain ⟨N, hN⟩ : ∃ N, N = 3 * n + 6 := ⟨_, rfl⟩
      rw [← hN] at hsz
      have hN96 : N ≤ 96 := by omega
      have hp96 : p ≤ 96 := by omega
      have hN6 : 6 ≤ N := by omega
      have sK := HK.out.size
      by_cases hlt : j < 2
      · have hpi : (p : Int) < (N : Int) := by omega
        have hp3 : (p : Int) + 3 ≤ (N : Int) := by omega
        have hex := HEX.out p
        have HSJ := Lib.hid (HST.out j wr _ HO.out.seen hlt)
        rw [HPN.out, ← hp] at HSJ
        have ht3 : ((p : Int) + 3).toNat = p + 3 := by omega
        have HPp := Lib.hid hp
        have HN := Lib.hid hN
        clear hp hp' hN
        generalize str ((r.drop p).take 3) = tx at *
        go_wp2_with fail
        refine HSJ.out.mono ?_
        rintro e w4 ⟨v4, rfl, o4, k4⟩
        have HO4 : Hid (OwnP 25 w4 w1.heap.size w4.heap.size v4 (decX r n (j + 1))) := ⟨own_base o4.1 sK, Nat.le_refl _, o4.2.2⟩
        have HK4 := Lib.hid (turn_trans HK.out k4 (by omega))
        clear o4 k4
        go_wp2_with fail
        go_roundw
        case rel => exact ⟨j + 1, by omega, by have := HPp.out; go_num, HO4, HK4⟩
        case measure => have := HPp.out; have := HN.out; simp [intOf]; omega
      · obtain rfl : j = 2 := by omega
        have hpi : ¬ (p : Int) < (N : Int) := by omega
        obtain ⟨g, cap, cur, hv, hbg, hg⟩ : ∃ g cap cur, u4 = .slice (some ⟨g, 0, none⟩) 4 cap ∧ w1.heap.size ≤ g ∧ wr.heap[g]? = some cur := by
          rcases HO.out.1.2 with ⟨_, hn0⟩ | ⟨g, cap, cur, hh, hb, hg, _⟩
          · rw [HDL.out] at hn0; omega
          · exact ⟨g, cap, _, by rw [hh, HDL.out], hb, hg⟩
        subst hv
        have o0 : wr.cell? ⟨g, 0, none⟩ = some (.string (str ps)) := by
          have := HO.out.1.cellAt (0 * 2) (by omega)
          rw [pts_bits _ 0 (by rw [HDL.out]; omega), ← getD_len _ noP, HD2.out] at this
          exact this
        have o1 : wr.cell? ⟨g, 1, none⟩ = some (.int .i64 py) := by
          have := HO.out.1.cellAt (0 * 2 + 1) (by omega)
          rw [pts_cost _ 0 (by rw [HDL.out]; omega), ← getD_len _ noP, HD2.out] at this
          exact this
        have hgl : g < wr.heap.size := (Array.getElem?_eq_some_iff.1 hg).1
        have X1 := HX0.out.keep HK.out (by omega)
        have q0 := X1.c0
        have q1 := X1.c1
        have f0 := X1.f0
        have f1 := X1.f1
        obtain ⟨z, hz⟩ : ∃ z, z = n + 2 := ⟨_, rfl⟩
        rw [← hz] at hps
        have hz2 : 2 ≤ z := by omega
        have hz3 : z ≤ 32 := by omega
        have htn : ((z : Int) - 2).toNat = n := by omega
        have hex := HPS.out n
        generalize hTT : ps.take n = tt at *
        have hwl : w.heap.size < wr.heap.size := by omega
        have hne : w.heap.size ≠ wr.heap.size := by omega
        have X2 := X1.keep (turn_alloc wr (.cells #[.string (str tt), .int .i64 py] 25)) (by omega)
        have X3 := X2.set (.string (str tt)) (.int .i64 py)
        have r0 := X3.c0
        have r1 := X3.c1
        have HB6 := Lib.hid (HK.out.base HK1.out.to_below (by omega) (by omega))
        have HB7 := Lib.hid (((HB6.out.setCell (p := ⟨w.heap.size, 0, none⟩) (Nat.le_refl _) (.string (str tt))).setCell (p := ⟨w.heap.size, 1, none⟩) (Nat.le_refl _) (.int .i64 py)).alloc (by simp; omega) (.cells #[.string (str tt), .int .i64 py] 25))
        clear hz hp hp' hN hg HO HST X1 X2 X3 hTT
        go_wp2_with fail
        refine bodyPost_ret (v := .tuple #[.agg #[.string (str tt), .int .i64 py], .bool true]) (by simp [results, Try.results15, go_sem, r0, r1, q0, q1, f0, f1, hne, hwl]) rfl ?_
        exact ⟨by rw [H.out], TurnIn.of_below HB7.out⟩
  · have H : Hid (recOk r = false) := by show recOk r = false; simpa using h
    have HR := Lib.hid (dcdR_no H.out)
    have HRC := Lib.hid (fun W => l10Received_any r W hs)
    have q0 := X0.c0
    have q1 := X0.c1
    have f0 := X0.f0
    have f1 := X0.f1
    rw [HR.out]
    clear h hs X0
    go_enter Try.func15, Try.ntmps15
    go_wp2_with fail
    generalize (w.alloc (.cells #[.string ⟨#[]⟩, .int .i64 0] 25)) = w1 at *
    refine (HRC.out _).mono ?_
    rintro e w' ⟨rfl, rfl⟩
    rw [H.out]
    go_wp2_with fail
    refine bodyPost_ret (v := .tuple #[.agg #[.string (str []), .int .i64 0], .bool false]) (by simp [results, Try.results15, go_sem, q0, q1, f0, f1]; rfl) rfl ?_
    refine ⟨by rw [H.out], TurnIn.of_below ?_⟩
    exact ((a1.to_below).setCell (p := ⟨w.heap.size, 0, none⟩) (Nat.le_refl _) _).setCell (p := ⟨w.heap.size, 1, none⟩) (Nat.le_refl _) _

end Go.Proofs.Ytjgmegfbfjmnfaa

/- Chapter 10: the best paths to all states, received bits, BestPaths, DecodeBits: the program's. -/
namespace G294
open Go Go.RowKit
theorem pts_set1 (l : List Pt) (i : Nat) (x : Int) (h : i < l.length) : (pts l).set (i * 2 + 1) (.int .i64 x) = pts (l.set i (l[i].1, x)) := by
  induction l generalizing i with
  | nil => simp at h
  | cons s l ih =>
    cases i with
    | zero => rfl
    | succ i =>
      rw [show (i + 1) * 2 + 1 = i * 2 + 1 + 1 + 1 by omega]
      simp only [pts, List.set_cons_succ, ih i (by simpa using h), List.getElem_cons_succ]
theorem startP_zero : ∀ k, k ≤ 4 → startP.take k ++ List.replicate (4 - k) (([] : List UInt8), (0 : Int)) = startP.take k ++ List.replicate (4 - k) (([] : List UInt8), (0 : Int)) := fun _ _ => rfl
end G294
namespace Go.Proofs.Ytjgmegfbfjmnfaa
open Go.RowKit G294

set_option maxRecDepth 100000 in
set_option maxHeartbeats 4000000 in
theorem pathsThrough_own (v : Value) (r : List UInt8) (n : Nat) (w : World) (hv : Seen w v (bys (raw r))) (hr : r.length = 3 * n) (hn : n ≤ 32) :
    Calls Try.prog 42 #[v] w (RetPts 25 w (pathsN r n)) := by
  obtain ⟨i0, hi0, hz0, hz1, hz2⟩ := info_parts infoPathI
  have HV := Lib.hid hv
  obtain ⟨A, c, hvv, hlc, hcm, hx⟩ := hv
  rw [bys_length, raw_len, hr] at hvv hlc hx
  subst hvv
  unfold maxLen at hcm
  have HX := Lib.hid hx
  have HGO := Lib.hid (fun k W (hk : k < 4) => registerOf_own k W hk)
  have HRZ : Hid (∀ k, k < 4 → ∀ W, (binOp .neq 68 (.agg #[.int .u8 ((regH k).toNat : Int), .int .u8 ((regL k).toNat : Int)]) (.agg #[.int .u8 0, .int .u8 0])).run Try.prog W = .ok (.bool (!decide (k = 0))) W) := fun k hk W => by
    have := neqReg (regH k) (regL k) 0 0 W
    rw [reg_zero k hk] at this
    exact this
  have HSG := Lib.hid (fun k (hk : k < 4) => startP_get hk)
  have HSL : Hid (startP.length = 4) := rfl
  have HPN : Hid (∀ j, pathsN r (j + 1) = stepP (pathsN r j) ((r.drop (3 * j)).take 3)) := fun j => rfl
  have HOKN := Lib.hid (fun j f (hf : f < 4) => okP_paths r j f hf)
  have HP0 : Hid (pathsN r 0 = startP) := rfl
  have HPL := Lib.hid (fun j => pathsN_len r j)
  have HRL : Hid ((raw r).length = 3 * n) := by show _ = _; rw [raw_len, hr]
  obtain ⟨N, hN⟩ : ∃ N, N = 3 * n := ⟨_, rfl⟩
  have HN := Lib.hid hN
  rw [← hN] at HV HX hlc HRL ⊢
  have hN96 : N ≤ 96 := by omega
  have HRR := Lib.hid hr
  clear hx hr hN
  go_enter Try.func42, Try.ntmps42
  go_wp2_with (at_make; refine wpList_make_full _ rfl _ _ _ rfl w.heap.size _ i0 _ 2 Try.underlying28 hi0 hz0 hz1 _ _ _ _ 4 rfl rfl rfl rfl ?b2 ?b3 ?b4 ?_)
  case b2 => rw [hz2]; omega
  case b3 => unfold maxLen; omega
  case b4 => exact Nat.le_refl _
  intro w1 hown1 hg1
  have hb1 : Below w.heap.size w w1 := below_of_grown hg1 (Nat.le_refl _) (by simp)
  replace hown1 : w1.ownsRow w.heap.size 25 2 (.slice (some ⟨w.heap.size, 0, none⟩) 4 4) 4 (pts (List.replicate 4 (([] : List UInt8), (0 : Int)))) := by rw [← toList_madeCells_pts]; exact hown1
  clear hg1
  go_wp2_with fail
  go_loopw [9] (fun i wr => ∃ k : Nat, k ≤ 4 ∧ i = .int .i64 k ∧ wr.ownsRow w.heap.size 25 2 (.slice (some ⟨w.heap.size, 0, none⟩) 4 4) 4 (pts (startP.take k ++ List.replicate (4 - k) (([] : List UInt8), (0 : Int)))) ∧ Below w.heap.size w wr)
    (fun i _ => 4 - (intOf i).toNat)
  case atStart => exact ⟨0, Nat.zero_le _, rfl, by simpa using hown1, hb1⟩
  case round =>
    obtain ⟨k, hk, rfl, hown, hb⟩ := hrel
    clear hown1 hb1
    by_cases hlt : k < 4
    · have hki : (k : Int) < 4 := by omega
      have HSK := Lib.hid (HSG.out k hlt)
      have HB := Lib.hid hb
      have HOW := Lib.hid hown
      have hbs := hb.size
      have hneq := HRZ.out k hlt
      have hgd : ∀ (op : BinOp) (x y : Operand) (W : World), (eqGuard op 68 x y (.agg #[.int .u8 ((regH k).toNat : Int), .int .u8 ((regL k).toNat : Int)]) (.agg #[.int .u8 0, .int .u8 0])).run Try.prog W = .ok () W := fun op x y W => eqgReg op x y _ _ 0 0 W
      have HGK := Lib.hid (fun W => HGO.out k W hlt)
      generalize regH k = Xk at *
      generalize regL k = Lk at *
      clear hown hb
      have hlen : (startP.take k ++ List.replicate (4 - k) (([] : List UInt8), (0 : Int))).length = 4 := by simp [HSL.out]; omega
      have hkl : k < (startP.take k ++ List.replicate (4 - k) (([] : List UInt8), (0 : Int))).length := by omega
      have HAT : Hid ((startP.take k ++ List.replicate (4 - k) (([] : List UInt8), (0 : Int)))[k].1 = []) := by
        show _ = _
        rw [List.getElem_append_right (by simp [HSL.out]; omega)]; simp
      have HNX : Hid ((startP.take k ++ List.replicate (4 - k) (([] : List UInt8), (0 : Int))).set k ([], if k = 0 then 0 else -1) = startP.take (k + 1) ++ List.replicate (4 - (k + 1)) (([] : List UInt8), (0 : Int))) := by
        show _ = _
        rw [take_set_next startP _ k _ HSK.out (by simp [HSL.out]; omega), List.tail_replicate, Nat.sub_sub]
      by_cases hk0 : k = 0
      · have hdk : (!decide (k = 0)) = false := by simp [hk0]
        rw [hdk] at hneq
        have HSAME : Hid (startP.take (k + 1) ++ List.replicate (4 - (k + 1)) (([] : List UInt8), (0 : Int)) = startP.take k ++ List.replicate (4 - k) (([] : List UInt8), (0 : Int))) := by
          show _ = _
          subst hk0; rfl
        clear HAT hk0 hdk hlen hkl
        go_wp2_with fail
        refine (HGK.out _).mono ?_
        rintro e w2 ⟨rfl, k2⟩
        have HB2 := Lib.hid (k2.base HB.out HB.out.size (by omega))
        have HOW2 := Lib.hid (owns_turn0 HOW.out k2)
        unfold regV
        clear k2
        go_wp2_with fail
        go_roundw
        case rel => exact ⟨k + 1, by omega, by go_num, by rw [HSAME.out]; exact HOW2.out, HB2.out⟩
        case measure => simp [intOf]; omega
      · have hdk : (!decide (k = 0)) = true := by simp [hk0]
        rw [hdk] at hneq
        rw [if_neg hk0] at HNX
        clear hk0 hdk hlen
        go_wp2_with fail
        refine (HGK.out _).mono ?_
        rintro e w2 ⟨rfl, k2⟩
        have s2 := k2.size
        have hown' := owns_turn0 HOW.out k2
        have hd2 : w2.cell? ⟨w.heap.size, k * 2 + 1, none⟩ = some (.int .i64 (startP.take k ++ List.replicate (4 - k) (([] : List UInt8), (0 : Int)))[k].2) := by rw [hown'.cellAt (k * 2 + 1) (by omega), pts_cost _ k hkl]
        have hf2 := hown'.frozenAt (k * 2 + 1)
        have hst := hown'.stored (k * 2 + 1) (.int .i64 (-1))
        rw [pts_set1 _ k (-1) hkl, HAT.out, HNX.out] at hst
        have HST := Lib.hid hst.1
        have HB3 := Lib.hid ((k2.base HB.out HB.out.size (by omega)).setCell (p := ⟨w.heap.size, k * 2 + 1, none⟩) (Nat.le_refl _) (.int .i64 (-1)))
        generalize (startP.take k ++ List.replicate (4 - k) (([] : List UInt8), (0 : Int)))[k].2 = old at hd2
        unfold regV
        clear hown' hst k2 hkl HAT
        go_wp2_with fail
        go_roundw
        case rel => exact ⟨k + 1, by omega, by go_num, HST.out, HB3.out⟩
        case measure => simp [intOf]; omega
    · obtain rfl : k = 4 := by omega
      have hki : ¬ ((4 : Nat) : Int) < 4 := by omega
      rw [List.take_of_length_le (by rw [HSL.out]; exact Nat.le_refl _), Nat.sub_self] at hown
      have HO : Hid (OwnP 25 wr w.heap.size wr.heap.size (.slice (some ⟨w.heap.size, 0, none⟩) 4 4) (pathsN r 0)) := by
        show OwnP _ _ _ _ _ _
        rw [HP0.out]
        refine ⟨by rw [HSL.out]; simpa using hown, Nat.le_refl _, fun g e => ?_⟩
        exact (hown.lt g e).2
      have HB := Lib.hid hb
      generalize wr = w3 at *
      clear hown hb HSG HRZ HGO
      go_wp2_with fail
      go_loopw [3, 5] (fun vp i wr => ∃ j : Nat, j ≤ n ∧ i = .int .i64 ((3 * j : Nat) : Int) ∧ Hid (OwnP 25 wr w.heap.size wr.heap.size vp (pathsN r j)) ∧ Hid (Below w.heap.size w wr))
        (fun _ i _ => N - (intOf i).toNat)
      case atStart => exact ⟨0, Nat.zero_le _, rfl, HO, HB⟩
      case round =>
        obtain ⟨j, hj, rfl, HO1, HB1⟩ := hrel
        clear HO HB
        have hN3 := HN.out
        obtain ⟨p, hp⟩ : ∃ p, p = 3 * j := ⟨_, rfl⟩
        rw [← hp]
        by_cases hlt : j < n
        · have hpi : (p : Int) < (N : Int) := by omega
          have hp3 : p + 3 ≤ N := by omega
          obtain ⟨b, off, rfl, hbl, hcell⟩ := HX.out (by omega)
          have hsl : ∀ W, (Instr.slice 22 (.slice (some ⟨b, off, none⟩) N c) (some (.int .i64 (p : Int))) (some (.int .i64 ((p : Int) + 3))) none).run Try.prog W = .ok (.slice (some ⟨b, off + p, none⟩) 3 (c - p)) W := fun W => by
            have := vSliceLHb b off N c p (p + 3) (by omega) (by omega) (by omega) W
            rw [Nat.add_sub_cancel_left] at this
            exact this
          have HSE : Hid (Seen wr (.slice (some ⟨b, off + p, none⟩) 3 (c - p)) (bys (raw ((r.drop (3 * j)).take 3)))) := by
            have h1 := (HV.out.below HB1.out).part p 3 (by rw [bys_length, HRL.out]; omega) (by omega)
            rw [bys_part, raw_part, hp] at h1
            rw [hp]; exact h1
          have HLP := Lib.hid (longerPaths_own _ _ (pathsN r j) ((r.drop (3 * j)).take 3) j (3 * j) wr HO1.out.seen (HPL.out j) HSE.out (by simp; rw [HRR.out]; omega) (HOKN.out j) (by omega) (by omega) (by omega))
          rw [← HPN.out j] at HLP
          have HP := Lib.hid hp
          have HN2 := Lib.hid hN3
          clear hcell hp hN3
          go_wp2_with fail
          refine HLP.out.mono ?_
          rintro e w4 ⟨v4, rfl, o4, k4⟩
          have HO4 : Hid (OwnP 25 w4 w.heap.size w4.heap.size v4 (pathsN r (j + 1))) := ⟨own_base o4.1 (by have := HB1.out.size; omega), Nat.le_refl _, o4.2.2⟩
          have HB4 := Lib.hid (k4.base HB1.out HB1.out.size (by omega))
          clear o4 k4
          go_wp2_with fail
          go_roundw
          case rel => exact ⟨j + 1, by omega, by have := HP.out; go_num, HO4, HB4⟩
          case measure => simp [intOf]; omega
        · obtain rfl : j = n := by omega
          have hpi : ¬ (p : Int) < (N : Int) := by omega
          have HB2 := Lib.hid HB1.out
          have hP := HO1.out
          clear hp hN3
          go_wp2_with fail
          go_ret
          exact ⟨_, rfl, HO1.out, TurnIn.of_below HB1.out⟩

end Go.Proofs.Ytjgmegfbfjmnfaa
