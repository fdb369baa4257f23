/- Chapter 12: MoveFront and MoveBack, the model's: the row of all bytes. -/
import Derived.Test.YtdbgkpmdimapdaaMvfX
import Derived.Test.YtdbgkpmdimapdaaShrApp
import Derived.BigQuiet
set_option linter.unusedSimpArgs false
set_option linter.unusedVariables false
namespace G294
open Go Go.RowKit
theorem growTy {w w1 w2 : World} {row : Option Nat} (t : TurnIn 0 0 w w1) (hg : w1.grownBy w2 row) (hr : ∀ g, row = some g → w.heap.size ≤ g) : TurnIn 0 0 w w2 :=
  TurnIn.of_below (t.to_below.grown hg t.size hr)
theorem seen_cells {w : World} {b off m c : Nat} {xs : List UInt8} (hm : xs.length = m) (hc : m ≤ c) (hx : c ≤ maxLen) (hb : b < w.heap.size) (h : ∀ i, i < m → w.cell? ⟨b, off + i, none⟩ = some (.int .u8 ((xs.getD i 0).toNat : Int))) :
    Seen w (.slice (some ⟨b, off, none⟩) m c) (bys xs) := by
  subst hm
  refine ⟨some ⟨b, off, none⟩, c, by rw [bys_length], by rw [bys_length]; exact hc, hx, fun _ => ⟨b, off, rfl, hb, fun i u hu => ?_⟩⟩
  have hi : i < xs.length := by
    rcases Nat.lt_or_ge i xs.length with h | h
    · exact h
    · rw [List.getElem?_eq_none (by simpa using h)] at hu; cases hu
  rw [bys_get xs i hi] at hu
  cases hu
  rw [h i hi]; simp [List.getD, hi]
/-- the row of all bytes; its block is not the one that is avoided -/
def RowK (w : World) (v : Value) (l : List UInt8) (avoid : Option Nat) : Prop :=
  ∃ b off c, v = .slice (some ⟨b, off, none⟩) 256 c ∧ 256 ≤ c ∧ c ≤ maxLen ∧ b < w.heap.size ∧ some b ≠ avoid ∧ l.length = 256 ∧ ∀ i, i < 256 → w.cell? ⟨b, off + i, none⟩ = some (.int .u8 ((l.getD i 0).toNat : Int))
theorem RowK.seen {w : World} {v : Value} {l : List UInt8} {av : Option Nat} (h : RowK w v l av) : Seen w v (bys l) := by
  obtain ⟨b, off, c, rfl, h1, h2, h3, _, h5, h6⟩ := h
  exact seen_cells h5 h1 h2 h3 h6
theorem RowK.drewN {w : World} {v : Value} {l : List UInt8} {av : Option Nat} (h : RowK w v l av) (m : Nat) : RowK (w.drewN m) v l av := h
theorem RowK.alloc {w : World} {v : Value} {l : List UInt8} {av : Option Nat} (h : RowK w v l av) (o : Obj) : RowK (w.alloc o) v l av := by
  obtain ⟨b, off, c, rfl, h1, h2, h3, h4, h5, h6⟩ := h
  exact ⟨b, off, c, rfl, h1, h2, by rw [World.size_alloc]; omega, h4, h5, fun i hi => cell_turn (turn_alloc w o) (h6 i hi) h3⟩
theorem RowK.grown {w w' : World} {v : Value} {l : List UInt8} {av : Option Nat} (h : RowK w v l av) (hg : w.grownBy w' av) : RowK w' v l av := by
  obtain ⟨b, off, c, rfl, h1, h2, h3, h4, h5, h6⟩ := h
  exact ⟨b, off, c, rfl, h1, h2, Nat.lt_of_lt_of_le h3 hg.size, h4, h5, fun i hi => hg.cell (h6 i hi) h4⟩
theorem RowK.of_own {w : World} {E : TypeId} {lo hi : Nat} {v : Value} {l : List UInt8} (h : OwnBytes E w lo hi v l) (hl : l.length = 256) {av : Option Nat} (ha : ∀ g, av = some g → g < lo) : RowK w v l av := by
  obtain ⟨A, c, e, hx⟩ := seen_getD h.seen
  rw [hl] at e
  obtain ⟨b, off, rfl, hb, hc⟩ := hx (by omega)
  obtain ⟨A', c', e', h1, h2, _⟩ := h.seen
  rw [bys_length, hl] at e'
  rw [e] at e'
  obtain ⟨_, _, rfl⟩ : True ∧ True ∧ c = c' := by cases e'; exact ⟨trivial, trivial, rfl⟩
  refine ⟨b, off, c, e, by simpa [hl] using h1, h2, hb, fun e2 => ?_, hl, fun i hi => hc i (by omega)⟩
  have h3 := (h.1.lt b (by rw [e]; rfl)).1
  have := ha b e2.symm
  omega
theorem row0_len : row0.length = 256 := by simp [row0]
theorem row0_take {k : Nat} (h : k < 256) : row0.take (k + 1) = row0.take k ++ [UInt8.ofNat k] := by
  rw [List.take_succ_eq_append_getElem (by rw [row0_len]; exact h)]
  simp [row0]
theorem ofNat_small {k : Nat} (h : k < 256) : ((UInt8.ofNat k).toNat : Int) = k := by rw [UInt8.toNat_ofNat', Nat.mod_eq_of_lt h]
theorem own_new1b (w : World) (e : TypeId) (x : UInt8) : (w.alloc (.cells #[.int .u8 (x.toNat : Int)] e)).ownsRow w.heap.size e 1 (.slice (some ⟨w.heap.size, 0, none⟩) 1 1) 1 (bys [x]) :=
  own_new1 w e _
theorem nilOk_some (a : Addr) (m c : Nat) : NilOk (.slice (some a) m c) := fun c' e => by cases e
theorem getD_take' {l : List UInt8} {k i : Nat} (h : i < k) : (l.take k).getD i 0 = l.getD i 0 := by simp [List.getD, List.getElem?_take, h]
theorem getD_drop' {l : List UInt8} {k i : Nat} : (l.drop k).getD i 0 = l.getD (k + i) 0 := by simp [List.getD, List.getElem?_drop]
end G294
namespace Go.Proofs.Ytdbgkpmdimapdaa
open Go.RowKit G294

set_option maxRecDepth 100000 in
set_option maxHeartbeats 2000000 in
theorem l12Row_own (w : World) : Calls Try.prog 91 #[] w (RetBytes 5 w row0) := by
  have HT := Lib.hid (fun k h => @row0_take k h)
  have HO := Lib.hid (fun k h => @ofNat_small k h)
  have HL : Hid (∀ k, k ≤ 256 → (row0.take k).length = k) := Lib.hid (fun k h => by rw [List.length_take, row0_len]; omega)
  have HOW0 : Hid (w.ownsRow w.heap.size 5 1 (.slice none 0 0) 0 (bys (row0.take 0))) := by
    show World.ownsRow _ _ _ _ _ _ _
    exact World.ownsRow_nil _ _ _ _
  have HTA : Hid (row0.take 256 = row0) := by show _ = _; rw [← row0_len, List.take_length]
  have HRL := Lib.hid row0_len
  generalize row0 = R at *
  go_enter Try.func91, Try.ntmps91
  go_wp2_with fail
  go_loopw [1, 2] (fun v y wr => ∃ k : Nat, k ≤ 256 ∧ y = .int .i64 k ∧ Hid (wr.ownsRow w.heap.size 5 1 v k (bys (R.take k))) ∧ Hid (TurnIn 0 0 w wr)) (fun _ y _ => 256 - (intOf y).toNat)
  case atStart => exact ⟨0, Nat.zero_le _, rfl, HOW0, Lib.hid (TurnIn.refl _)⟩
  case round =>
    clear HOW0
    obtain ⟨k, hk, rfl, HBr, HK⟩ := hrel
    by_cases hlt : k < 256
    · have hki : (k : Int) < 256 := by omega
      have hwr := HK.out.size
      have HO2 := Lib.hid (HBr.out.alloc (.cells #[.int .u8 (k : Int)] 5))
      have KA := Lib.hid (turn_trans HK.out (turn_alloc wr (.cells #[.int .u8 (k : Int)] 5)) (by omega))
      clear HBr
      go_wp2_with (at_builtin; refine wpList_append1 rfl _ _ _ rfl w.heap.size 5 _ _ Try.underlying22 infoByte rfl _ k _ rfl HO2.out _ (.int .u8 (k : Int)) rfl ?c1 rfl ?c2 ?c3 ?c4 ?_)
      case c1 => simp
      case c2 => omega
      case c3 => omega
      case c4 => simp; omega
      intro v' w3 hown3 hg3 _
      have K3 := Lib.hid (growTy KA.out hg3 (fun g e => (HO2.out.lt g e).1))
      have HO3 : Hid (w3.ownsRow w.heap.size 5 1 v' (k + 1) (bys (R.take (k + 1)))) := by
        show World.ownsRow _ _ _ _ _ _ _
        rw [HT.out k hlt, bys_append]
        have e : bys [UInt8.ofNat k] = [.int .u8 (k : Int)] := by simp only [bys, List.map_cons, List.map_nil]; rw [HO.out k hlt]
        rw [e]; exact hown3
      clear hown3 hg3 HO2 KA
      go_wp2_with fail
      go_roundw
      case rel => exact ⟨k + 1, by omega, by go_num, HO3, K3⟩
      case measure => simp [intOf]; omega
    · obtain rfl : k = 256 := by omega
      rw [HTA.out] at HBr
      go_wp2_with fail
      go_ret
      exact ⟨_, rfl, ⟨by rw [HRL.out]; exact HBr.out, Nat.le_refl _, fun g e => (HBr.out.lt g e).2⟩, HK.out⟩

set_option maxRecDepth 100000 in
set_option maxHeartbeats 2000000 in
theorem l12Front_own (v : Value) (l : List UInt8) (k : Nat) (w : World) (hv : Seen w v (bys l)) (hl : l.length = 256) (hk : k < 256) : Calls Try.prog 92 #[v, .int .i64 k] w (RetBytes 5 w (moveTo l k)) := by
  obtain ⟨A, c, rfl, hx⟩ := seen_getD hv
  obtain ⟨A', c', e', h1, h2, _⟩ := hv
  have hcc : c = c' := by rw [bys_length] at e'; simp only [Value.slice.injEq] at e'; exact e'.2.2
  rw [bys_length, hl] at h1
  subst hcc
  rw [hl] at hx
  obtain ⟨b, off, rfl, hb, hc⟩ := hx (by omega)
  have hc0 := hc k hk
  have HM : Hid (moveTo l k = l.getD k 0 :: (l.take k ++ l.drop (k + 1))) := Lib.hid rfl
  have HS1 : Hid (∀ W : World, Below w.heap.size w W → Seen W (.slice (some ⟨b, off, none⟩) k c) (bys (l.take k))) := Lib.hid (fun W hW => seen_cells (by simp; omega) (by omega) h2 (Nat.lt_of_lt_of_le hb hW.size) (fun i hi => by rw [getD_take' hi]; exact (hW.cell (p := ⟨b, off + i, none⟩) hb).trans (hc i (by omega))))
  have HS2 : Hid (∀ W : World, Below w.heap.size w W → Seen W (.slice (some ⟨b, off + (k + 1), none⟩) (255 - k) (c - (k + 1))) (bys (l.drop (k + 1)))) := Lib.hid (fun W hW => seen_cells (by simp; omega) (by omega) (by omega) (Nat.lt_of_lt_of_le hb hW.size) (fun i hi => by rw [getD_drop', Nat.add_assoc]; exact (hW.cell (p := ⟨b, off + (k + 1 + i), none⟩) hb).trans (hc (k + 1 + i) (by omega))))
  have HML : Hid (min k l.length = k) := Lib.hid (by omega)
  have HLT : Hid ((l.take k).length = k) := by show _ = _; simp; omega
  have HLD : Hid ((l.drop (k + 1)).length = 255 - k) := by show _ = _; simp; omega
  have HS3 : Hid (∀ W : World, Below w.heap.size w W → Seen W (.slice (some ⟨b, off, none⟩) 0 0) (bys ([] : List UInt8))) := Lib.hid (fun W hW => seen_cells rfl (Nat.le_refl _) (Nat.zero_le _) (Nat.lt_of_lt_of_le hb hW.size) (fun i hi => by omega))
  have HD3 : Hid (k = 255 → l.drop (k + 1) = []) := Lib.hid (fun h => by rw [List.drop_eq_nil_iff, hl]; omega)
  rw [hl]
  unfold maxLen at h2
  clear hc hx e' hl
  generalize l.getD k 0 = x at *
  have hkk : (k : Int) < 256 := by omega
  have HO1 := Lib.hid (own_new1b w 5 x)
  have KA := Lib.hid (turn_alloc w (.cells #[.int .u8 (x.toNat : Int)] 5))
  go_enter Try.func92, Try.ntmps92
  go_wp2_with (at_builtin; refine wpList_appendB rfl _ _ _ rfl w.heap.size 5 Try.underlying22 infoByte _ _ _ _ rfl HO1.out _ rfl (HS1.out _ KA.out.to_below) ?c7 ?c5 ?c6 ?_)
  case c7 => exact nilOk_some ⟨b, off, none⟩ k c
  case c5 => rw [HLT.out]; omega
  case c6 => first | (simp; done) | (simp; omega)
  intro v2 w2 hown2 hg2
  have K2 := Lib.hid (growTy KA.out hg2 (fun g e => (HO1.out.lt g e).1))
  have HO2 := Lib.hid hown2
  have hw2 := K2.out.size
  clear hown2 hg2 HO1 KA
  by_cases hck : c = k + 1
  · have hk5 : k = 255 := by omega
    have HD4 : Hid (l.drop (k + 1) = []) := HD3.out hk5
    have HLT5 := HLT.out
    subst hck
    generalize l.drop (k + 1) = D at *
    generalize l.take k = T at *
    subst hk5
    go_wp2_with (at_builtin; refine wpList_appendB rfl _ _ _ rfl w.heap.size 5 Try.underlying22 infoByte _ _ _ _ rfl HO2.out _ rfl (HS3.out _ K2.out.to_below) ?d7 ?d5 ?d6 ?_)
    case d7 => exact nilOk_some ⟨b, off, none⟩ _ _
    case d5 => (have h1 := HLT5; have h2 : ([] : List UInt8).length = 0 := rfl; omega)
    intro v3 w3 hown3 hg3
    have K3 := Lib.hid (growTy K2.out hg3 (fun g e => (HO2.out.lt g e).1))
    have HO3 : Hid (w3.ownsRow w.heap.size 5 1 v3 (moveTo l 255).length (bys (moveTo l 255))) := by
      show World.ownsRow _ _ _ _ _ _ _
      rw [HM.out]
      rw [HD4.out]
      rw [HML.out] at hown3
      have e1 : (x :: (T ++ [])).length = 1 + 255 := by simp [HLT5]
      rw [e1]; simpa using hown3
    clear hown3 hg3 HO2 K2
    go_wp2_with fail
    go_ret
    exact ⟨_, rfl, ⟨HO3.out, Nat.le_refl _, fun g e => (HO3.out.lt g e).2⟩, K3.out⟩
  · have hck2 : k + 1 < c := by omega
    go_wp2_with (at_builtin; refine wpList_appendB rfl _ _ _ rfl w.heap.size 5 Try.underlying22 infoByte _ _ _ _ rfl HO2.out _ rfl (HS2.out _ K2.out.to_below) ?g7 ?g5 ?g6 ?_)
    case g7 => exact nilOk_some ⟨b, off + (k + 1), none⟩ _ _
    case g5 => (have h1 := HLT.out; have h2 := HLD.out; simp only [List.length_take, List.length_drop] at *; omega)
    case g6 => omega
    intro v3 w3 hown3 hg3
    have K3 := Lib.hid (growTy K2.out hg3 (fun g e => (HO2.out.lt g e).1))
    have HO3 : Hid (w3.ownsRow w.heap.size 5 1 v3 (moveTo l k).length (bys (moveTo l k))) := by
      show World.ownsRow _ _ _ _ _ _ _
      rw [HM.out]
      have e : ([x] ++ l.take k ++ l.drop (k + 1)) = x :: (l.take k ++ l.drop (k + 1)) := by simp
      have e2 : (x :: (l.take k ++ l.drop (k + 1))).length = 1 + (l.take k).length + (l.drop (k + 1)).length := by simp; omega
      rw [e2, ← e]; simpa using hown3
    clear hown3 hg3 HO2 K2
    go_wp2_with fail
    go_ret
    exact ⟨_, rfl, ⟨HO3.out, Nat.le_refl _, fun g e => (HO3.out.lt g e).2⟩, K3.out⟩

end Go.Proofs.Ytdbgkpmdimapdaa
