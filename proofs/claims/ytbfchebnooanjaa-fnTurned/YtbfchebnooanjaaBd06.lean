/- Joined texts: Elim, Comb, PartMath, VitS, TurS, RunX, CntX. -/
import Derived.Test.YtbfchebnooanjaaBd05
import Derived.Test.YtbfchebnooanjaaBd00
import Derived.BigRegion
import Derived.StillTailTactics
import Derived.Test.YtbfchebnooanjaaBd04
import Derived.Test.YtbfchebnooanjaaBd01
import Derived.Deep.QuietTactic
import Derived.BigQuiet
import Derived.Deep.CutRange
set_option linter.unusedSimpArgs false
set_option linter.unusedVariables false
/- Elimination in place: pivotBelow, scaleRow, clearColumn, eliminate. -/
namespace Go.Proofs.Ytbfchebnooanjaa
open Go.RowKit G294

def pivV (o : Option Nat) : Value := match o with
  | none => .tuple #[.int .i64 0, .bool false]
  | some k => .tuple #[.int .i64 k, .bool true]

/-- row k turns in place -/
def RowTurn (E EE : TypeId) (w : World) (lo hi : Nat) (v : Value) (L : Mat) (vs : List Value) (e : Ending) (w' : World) : Prop := e = .returned (.tuple #[]) ∧ OwnM E EE w' lo hi v L vs ∧ TurnIn lo hi w w'

theorem stilly {P : Program} {f : FuncId} {args : Array Value} {w : World} {v : Value} (h : Calls P f args w fun e w' => e = .returned v ∧ w = w') :
    Calls P f args w fun e w' => e = .returned v ∧ w' = w := h.mono fun _ _ ⟨he, hw⟩ => ⟨he, hw.symm⟩

/-- column j cleared in the rows ahead of k and in the first m columns of row k -/
def clK (a j k m : Nat) (F : Ents) : Ents := fun i jj => if i < k ∨ (i = k ∧ jj < m) then clF a (fun i => F i j) F i jj else F i jj
end Go.Proofs.Ytbfchebnooanjaa

/- A row of a matrix by texts: the program's combined. -/
namespace G294
open Go Go.RowKit
/-- the product of a row and the bytes of texts -/
def combF (c : Nat) (f : Nat → UInt8) (T : List (List UInt8)) (p : Nat) : UInt8 := sumK c fun j => gmul (f j) (ent T j p)
def comb (c n : Nat) (f : Nat → UInt8) (T : List (List UInt8)) : List UInt8 := mkRow n (combF c f T)
theorem combF_succ (c : Nat) (f : Nat → UInt8) (T : List (List UInt8)) (p : Nat) : combF (c + 1) f T p = combF c f T p ^^^ gmul (f c) (ent T c p) := rfl
theorem str_get (t : List UInt8) (q : Nat) (h : q < (str t).size) : (str t)[q] = t.getD q 0 := by
  have h' : q < t.length := by rwa [str_size] at h
  show t.toArray[q]'(by simpa using h') = _
  simp [List.getD, h']
/-- one byte of a row of the call's own is stored -/
theorem OwnBytes.store {E : TypeId} {w : World} {lo hi g n cap q : Nat} {l l' : List UInt8} {x : UInt8} (h : OwnBytes E w lo hi (.slice (some ⟨g, 0, none⟩) n cap) l) (hn : l.length = n) (e : l.set q x = l') :
    OwnBytes E (w.setCell ⟨g, q, none⟩ (.int .u8 (x.toNat : Int))) lo hi (.slice (some ⟨g, 0, none⟩) n cap) l' := by
  have h1 := h.1
  rw [hn] at h1
  have hst := h1.stored q (.int .u8 (x.toNat : Int))
  refine ⟨?_, by simpa using h.2.1, h.2.2⟩
  have e2 : bys l' = (bys l).set q (.int .u8 (x.toNat : Int)) := by rw [← e]; simp [bys, List.map_set]
  have e3 : l'.length = n := by rw [← e]; simpa using hn
  rw [e2, e3]
  exact hst.1
theorem comb_step (n j q : Nat) (f : Nat → UInt8) (T : List (List UInt8)) : (mkRow n fun p => if p < q then combF (j + 1) f T p else combF j f T p).set q (combF (j + 1) f T q) = mkRow n fun p => if p < q + 1 then combF (j + 1) f T p else combF j f T p := by
  rw [mkRow_set]
  apply mkRow_congr
  intro p hp
  by_cases e : p = q
  · subst e; simp
  · rw [if_neg e]
    by_cases h2 : p < q
    · rw [if_pos h2, if_pos (by omega)]
    · rw [if_neg h2, if_neg (by omega)]
end G294
namespace Go.Proofs.Ytbfchebnooanjaa
open Go.RowKit G294

end Go.Proofs.Ytbfchebnooanjaa

/- Increasing lists of indexes, and parts of matrices: plain functions. -/
namespace G294
def okAt (l : List Int) (size : Nat) (i : Nat) : Prop := 0 ≤ l.getD i 0 ∧ l.getD i 0 < size ∧ (0 < i → l.getD (i - 1) 0 < l.getD i 0)
instance (l : List Int) (size i : Nat) : Decidable (okAt l size i) := by unfold okAt; infer_instance
def someOk (l : List Int) (size : Nat) : Bool := decide (∀ i, i < l.length → okAt l size i)
def chosen (l : List Int) (size : Nat) : Bool := someOk l size && decide (0 < l.length)
theorem someOk_iff (l : List Int) (size : Nat) : someOk l size = true ↔ ∀ i, i < l.length → okAt l size i := by simp only [someOk, decide_eq_true_eq]
theorem someOk_no {l : List Int} {size k : Nat} (hk : k < l.length) (h : ¬ okAt l size k) : someOk l size = false := by
  rw [Bool.eq_false_iff]; intro e; exact h ((someOk_iff l size).1 e k hk)
def ptOk (m : Mat) (l c : List Int) : Bool := goodM m && chosen l m.length && chosen c (wid m)
def ptF (m : Mat) (l c : List Int) : Ents := fun i j => ent m (l.getD i 0).toNat (c.getD j 0).toNat
def ptR (m : Mat) (l c : List Int) : Mat := if ptOk m l c = true then mkM l.length c.length (ptF m l c) else []
/-- an increasing list of indexes below size is no longer than size -/
theorem okAt_lo (l : List Int) (size : Nat) (h : ∀ i, i < l.length → okAt l size i) : ∀ i, i < l.length → (i : Int) ≤ l.getD i 0 := by
  intro i
  induction i with
  | zero => intro hi; exact (h 0 hi).1
  | succ i ih =>
    intro hi
    have h1 := ih (by omega)
    have h2 := (h (i + 1) hi).2.2 (by omega)
    simp only [Nat.add_sub_cancel] at h2
    omega
theorem some_len {l : List Int} {size : Nat} (h : someOk l size = true) : l.length ≤ size := by
  have h' := (someOk_iff l size).1 h
  rcases Nat.eq_zero_or_pos l.length with h0 | h0
  · omega
  · have h1 := okAt_lo l size h' (l.length - 1) (by omega)
    have h2 := (h' (l.length - 1) (by omega)).2.1
    omega
end G294

/- Chapter 10: bits, outputs, encoding, distances: the model's. -/
namespace G294
open Go Go.RowKit
theorem getD_len {α : Type} {l : List α} {k : Nat} (h : k < l.length) (d : α) : l.getD k d = l[k] := by simp [List.getD, h]
theorem take_snocD (l : List UInt8) {k : Nat} (h : k < l.length) : l.take (k + 1) = l.take k ++ [l.getD k 0] := by
  rw [List.take_add_one, List.getElem?_eq_getElem h, getD_len h]; rfl
theorem isBit_b0 {c : UInt8} (h : isBitC c = true) : (((c.toNat : Int) != 48) = false ∧ ((c.toNat : Int) == 48) = true ∧ c = 48) ∨ (((c.toNat : Int) != 48) = true ∧ ((c.toNat : Int) == 48) = false ∧ ((c.toNat : Int) != 49) = false ∧ ((c.toNat : Int) == 49) = true ∧ c = 49) := by
  rcases isBitC_or h with rfl | rfl
  · exact .inl ⟨rfl, rfl, rfl⟩
  · exact .inr ⟨rfl, rfl, rfl, rfl, rfl⟩
theorem isBit_no {c : UInt8} (h : isBitC c = false) : ((c.toNat : Int) != 48) = true ∧ ((c.toNat : Int) != 49) = true ∧ ((c.toNat : Int) == 48) = false ∧ ((c.toNat : Int) == 49) = false := by
  simp only [isBitC, Bool.or_eq_false_iff, beq_eq_false_iff_ne] at h
  have h1 : c.toNat ≠ 48 := fun e => h.1 (UInt8.toNat_inj.1 e)
  have h2 : c.toNat ≠ 49 := fun e => h.2 (UInt8.toNat_inj.1 e)
  simp only [bne_iff_ne, beq_eq_false_iff_ne]
  omega
theorem bitsOk_at {s : List UInt8} {m k : Nat} (h : bitsOk s m = true) (hk : k < s.length) : isBitC (s.getD k 0) = true := by
  rw [getD_len hk]
  exact List.all_eq_true.1 (bitsOk_b h).2 _ (List.getElem_mem hk)
theorem bitsOk_no {s : List UInt8} {m k : Nat} (hk : k < s.length) (h : isBitC (s.getD k 0) = false) : bitsOk s m = false := by
  rw [Bool.eq_false_iff]; intro e
  rw [bitsOk_at e hk] at h; cases h
theorem bv_sub (c : UInt8) (h : isBitC c = true) : ((c.toNat : Int) - 48) % 256 = ((bv c : Nat) : Int) := by
  rcases isBitC_or h with rfl | rfl <;> rfl
end G294
namespace Go.Proofs.Ytbfchebnooanjaa
open Go.RowKit G294

def RetOut (w : World) (s : List UInt8) (n : Nat) (e : Ending) (w' : World) : Prop := e = .returned (.tuple #[.string (str s), .int .i64 (n : Int)]) ∧ TurnIn 0 0 w w'

end Go.Proofs.Ytbfchebnooanjaa

/- Chapter 11: rotations and their order, the model's. -/
namespace G294
open Go Go.RowKit
theorem rot_extract (s : List UInt8) (k : Nat) (h : k ≤ s.length) : (str s).extract k s.length ++ (str s).extract 0 k = str (rotL s k) := by
  have e1 : (str s).extract k s.length = str (s.drop k) := by
    unfold str
    apply ByteArray.ext
    simp [ByteArray.data_extract]
    exact List.take_of_length_le (by simp)
  have e2 : (str s).extract 0 k = str (s.take k) := by
    unfold str
    apply ByteArray.ext
    simp [ByteArray.data_extract]
  rw [e1, e2, str_append]; rfl
theorem ext_size (s : List UInt8) (a b : Nat) : ((str s).extract a b).size ≤ s.length := by
  rw [ByteArray.size_extract, str_size]; omega
/-- the comparison of the model's loop -/
theorem leq_bef {s : List UInt8} {x i : Nat} (h : x < i) : (Op.bytesLess (rotL s x) (rotL s i) || rotL s x == rotL s i) = decide (bef s x i) := by
  have h1 := bef_fore (s := s) h
  by_cases hb : bef s x i
  · rcases hb with h2 | ⟨h2, _⟩
    · have h3 : Op.bytesLess (rotL s x) (rotL s i) = true := h2
      have h4 : bef s x i := .inl h2
      simp [h3, h4]
    · have h4 : bef s x i := .inr ⟨h2, h⟩
      simp [h2, h4]
  · have h2 : ¬ lessT (rotL s x) (rotL s i) = true := fun e => hb (.inl e)
    have h3 : Op.bytesLess (rotL s x) (rotL s i) = false := by simpa [lessT] using h2
    have h4 : rotL s x ≠ rotL s i := fun e => hb (.inr ⟨e, h⟩)
    simp [h3, h4, hb]
def stillB (s : List UInt8) (i k : Nat) : Prop := k < i ∧ bef s ((trnN s i).getD k 0) i
instance (s : List UInt8) (i k : Nat) : Decidable (stillB s i k) := by unfold stillB; exact inferInstance
theorem trnN_getD {s : List UInt8} {m k : Nat} (h : k < m) : (trnN s m).getD k 0 < m := by
  have hl := trnN_len s m
  rw [getD_len (by omega)]
  exact trnN_mem.1 (List.getElem_mem _)
theorem natI_get (l : List Nat) (k : Nat) (h : k < l.length) : (natI l)[k]? = some ((l.getD k 0 : Nat) : Int) := by
  simp [natI, getD_len h, h]
theorem natI_append (a b : List Nat) : natI (a ++ b) = natI a ++ natI b := by simp [natI]
theorem natI_take (a : List Nat) (k : Nat) : (natI a).take k = natI (a.take k) := by simp [natI, List.map_take]
theorem natI_drop (a : List Nat) (k : Nat) : (natI a).drop k = natI (a.drop k) := by simp [natI, List.map_drop]
theorem trn_step {s : List UInt8} {i k : Nat} (hk : k ≤ i) (h1 : ∀ j, j < k → bef s ((trnN s i).getD j 0) i) (h2 : ¬ stillB s i k) : (natI (trnN s i)).take k ++ [(i : Int)] ++ (natI (trnN s i)).drop k = natI (trnN s (i + 1)) := by
  rw [← trnN_next hk h1 (fun h => by
    have h3 := trnN_getD (s := s) h
    by_cases h4 : bef s ((trnN s i).getD k 0) i
    · exact absurd ⟨h, h4⟩ h2
    · by_cases h5 : bef s i ((trnN s i).getD k 0)
      · exact h5
      · exact absurd (bef_tri s h4 h5) (by omega))]
  rw [natI_append, ← natI_take, List.append_assoc]
  congr 1
  show _ = natI (i :: (trnN s i).drop k)
  simp [natI, List.map_drop]
theorem growT {w w1 w2 : World} {row : Option Nat} (t : TurnIn 0 0 w w1) (hg : w1.grownBy w2 row) (hr : ∀ g, row = some g → w.heap.size ≤ g) : TurnIn 0 0 w w2 :=
  TurnIn.of_below (t.to_below.grown hg t.size hr)
theorem turn_grown {lo : Nat} {w w' : World} {row : Option Nat} (h : w.grownBy w' row) (hr : ∀ g, row = some g → lo ≤ g) : TurnIn lo w.heap.size w w' :=
  ⟨h.os, h.tape, h.output, h.size, fun k hk hd => h.block k hk (fun e => by have := hr k e.symm; omega)⟩
end G294
namespace Go.Proofs.Ytbfchebnooanjaa
open Go.RowKit G294

set_option maxHeartbeats 1000000 in
theorem l11Turn_any (s : List UInt8) (k : Nat) (w : World) (hk : k ≤ s.length) (hs : s.length ≤ 1000) : Calls Try.prog 56 #[.string (str s), .int .i64 k] w (RetStr w (rotL s k)) := by
  have hsz : (str s).size = s.length := str_size s
  obtain ⟨X, hX⟩ : ∃ X, (str s).extract k s.length = X := ⟨_, rfl⟩
  obtain ⟨Y, hY⟩ : ∃ Y, (str s).extract 0 k = Y := ⟨_, rfl⟩
  have hXs : X.size ≤ 1000 := by rw [← hX]; exact Nat.le_trans (ext_size _ _ _) hs
  have hYs : Y.size ≤ 1000 := by rw [← hY]; exact Nat.le_trans (ext_size _ _ _) hs
  have HXY : Hid (X ++ Y = str (rotL s k)) := by show _ = _; rw [← hX, ← hY]; exact rot_extract s k hk
  have HB := Lib.hid (fun q => turn_drewN w q)
  generalize s.length = n at *
  go_enter Try.func56, Try.ntmps56
  go_wp2_with fail
  go_quiet (fail)
  go_wp2_with fail
  go_ret
  exact ⟨by rw [← HXY.out]; rfl, HB.out _⟩

set_option maxRecDepth 100000 in
set_option maxHeartbeats 2000000 in
theorem l11Turns_own (s : List UInt8) (w : World) (hs : s.length ≤ 120) : Calls Try.prog 57 #[.string (str s)] w (RetInts 3 w (natI (trn s))) := by
  obtain ⟨cp, w1, hcv, hc1, hc2, hO, hb1⟩ := bytes_of_str (P := Try.prog) w 9 22 5 s Try.underlying9 Try.underlying22 Try.underlying5 (by unfold maxLen; omega)
  have HB1 := Lib.hid (TurnIn.of_below hb1)
  have hsz1 := hb1.size
  have HT := Lib.hid (fun k W (hk : k ≤ s.length) => l11Turn_any s k W hk (by omega))
  have HST := Lib.hid (fun i k hk h1 h2 => trn_step (s := s) (i := i) (k := k) hk h1 h2)
  have HF : Hid (trnN s s.length = trn s) := Lib.hid rfl
  rw [← HF.out]
  clear hb1 hO
  have HOW0 : Hid (OwnInts 3 w1 w.heap.size w1.heap.size (.slice none 0 0) (natI (trnN s 0))) := by
    have e : trnN s 0 = [] := List.eq_nil_of_length_eq_zero (trnN_len s 0)
    show OwnInts _ _ _ _ _ _
    rw [e]
    exact ⟨World.ownsRow_nil _ _ _ _, Nat.le_refl _, fun g h => by simp [Value.ownBlock] at h⟩
  generalize hnn : s.length = n at *
  have HN := Lib.hid hnn
  clear hnn
  go_enter Try.func57, Try.ntmps57
  go_wp2_with fail
  go_loopw [3, 10] (fun v x wr => ∃ i : Nat, i ≤ n ∧ x = .int .i64 i ∧ Hid (OwnInts 3 wr w.heap.size wr.heap.size v (natI (trnN s i))) ∧ Hid (TurnIn 0 0 w wr)) (fun _ x _ => n - (intOf x).toNat)
  case atStart => exact ⟨0, Nat.zero_le _, rfl, HOW0, HB1⟩
  case round =>
    clear HOW0 HB1 hcv
    obtain ⟨i, hi, rfl, HOW, HTU⟩ := hrel
    by_cases hlt : i < n
    · have hki : (i : Int) < (n : Int) := by omega
      obtain ⟨A, c, hv⟩ := HOW.out.seen.len
      rw [ints_length, natI_len, trnN_len] at hv
      subst hv
      have HTI := Lib.hid (fun W => HT.out i W (by omega))
      generalize wr = wo at *
      have hsw := HTU.out.size
      go_wp2_with fail
      go_loopw [5] (fun x wr => ∃ k : Nat, k ≤ i ∧ x = .int .i64 k ∧ Hid (TurnIn 0 0 wo wr) ∧ Hid (∀ j, j < k → bef s ((trnN s i).getD j 0) i)) (fun x _ => i - (intOf x).toNat)
      case atStart => exact ⟨0, Nat.zero_le _, rfl, Lib.hid (TurnIn.refl _), Lib.hid (fun j h => by omega)⟩
      case round =>
        obtain ⟨k, hk, rfl, HTK, HK⟩ := hrel
        have hszk := HTK.out.size
        go_upto_region 6 with fail
        obtain ⟨tb, HTB⟩ : ∃ tb : Bool, Hid (decide (stillB s i k) = tb) := ⟨_, Lib.hid rfl⟩
        go_cut [28] from 13 to 28 (fun t wx => t = .bool tb ∧ TurnIn 0 0 wr wx)
        case first =>
          by_cases hkl : k < i
          · have hkli : (k : Int) < (i : Int) := by omega
            have hx := trnN_getD (s := s) hkl
            have HL := Lib.hid (leq_bef (s := s) hx)
            have HD : Hid (decide (stillB s i k) = decide (bef s ((trnN s i).getD k 0) i)) := by
              show _ = _
              by_cases h : bef s ((trnN s i).getD k 0) i <;> simp [stillB, hkl, h]
            obtain ⟨A', c', e, _, _, h3⟩ := HOW.out.seen
            simp only [Value.slice.injEq] at e
            obtain ⟨rfl, he, rfl⟩ := e
            clear he
            obtain ⟨b, o, rfl, hbb, hcc⟩ := h3 (by rw [ints_length, natI_len, trnN_len]; omega)
            have c1 : wr.cell? ⟨b, o + k, none⟩ = some (.int .i64 (((trnN s i).getD k 0 : Nat) : Int)) := by
              rw [World.cell?_of_block (HTK.out.block b hbb (by omega))]
              refine hcc k _ ?_
              simp only [ints, List.getElem?_map, natI_get (trnN s i) k (by rw [trnN_len]; exact hkl), Option.map_some]
            rw [← HD.out, HTB.out] at HL
            generalize (trnN s i).getD k 0 = x at *
            have HTX := Lib.hid (fun W => HT.out x W (by omega))
            clear h3 hcc HD
            go_wp2_with fail
            refine (HTX.out _).mono ?_
            rintro e w3 ⟨rfl, k3⟩
            have K3 := Lib.hid k3
            clear k3
            go_wp2_with fail
            refine (HTI.out _).mono ?_
            rintro e w4 ⟨rfl, k4⟩
            have K4 := Lib.hid (turn_trans K3.out k4 (by omega))
            clear k4
            have hle : (Op.bytesLess (str (rotL s x)).toList (str (rotL s i)).toList || (str (rotL s x)).toList == (str (rotL s i)).toList) = tb := by
              rw [str_toList, str_toList]; exact HL.out
            go_wp2_with fail
            go_meet
            exact ⟨by first | rfl | (rw [← hle]), K4.out⟩
          · have hkli : ¬ (k : Int) < (i : Int) := by omega
            have HD : Hid (decide (stillB s i k) = false) := by show _ = _; simp [stillB, hkl]
            go_wp2_with fail
            go_meet
            exact ⟨by rw [← HTB.out, HD.out], TurnIn.refl _⟩
        case rest =>
        obtain ⟨rfl, htc⟩ := hcut
        have HTC := Lib.hid (turn_trans HTK.out htc (by omega))
        clear htc HTK
        cases tb with
        | true =>
          have hst : stillB s i k := of_decide_eq_true HTB.out
          have HK2 : Hid (∀ j, j < k + 1 → bef s ((trnN s i).getD j 0) i) := fun j hj => by
            by_cases e : j = k
            · subst e; exact hst.2
            · exact HK.out j (by omega)
          have hkl : k < i := hst.1
          clear hst
          go_wp2_with fail
          go_roundw
          case rel => exact ⟨k + 1, by omega, by go_num, HTC, HK2⟩
          case measure => simp [intOf]; omega
        | false =>
          have hst : ¬ stillB s i k := of_decide_eq_false HTB.out
          have HFI := Lib.hid (HST.out i k hk HK.out hst)
          clear hst HK
          have hsc := HTC.out.size
          have HOC := Lib.hid (HOW.out.keep HTC.out (by omega))
          obtain ⟨u1, s1, s1', HS1, HN1⟩ := sliceHighI HOC.out.seen (own_nilI HOC.out.1) (k := k) (by rw [natI_len, trnN_len]; exact hk)
          obtain ⟨u2, s2, s2', HS2, HN2⟩ := sliceLowI HOC.out.seen (own_nilI HOC.out.1) (k := k) (by rw [natI_len, trnN_len]; exact hk)
          have H1 := Lib.hid (And.intro HS1 HN1)
          have H2 := Lib.hid (And.intro HS2 HN2)
          have HL1 : Hid (((natI (trnN s i)).take k).length = k) := by show _ = _; rw [List.length_take, natI_len, trnN_len]; omega
          have HL2 : Hid (((natI (trnN s i)).drop k).length = i - k) := by show _ = _; rw [List.length_drop, natI_len, trnN_len]
          generalize (natI (trnN s i)).take k = l1 at *
          generalize (natI (trnN s i)).drop k = l2 at *
          clear HS1 HN1 HS2 HN2 HOC
          go_wp2_with (at_builtin; refine wpList_appendIs rfl _ _ _ rfl wc.heap.size 3 _ _ Try.underlying28 infoInt rfl (by omega) _ 0 [] l1 rfl (World.ownsRow_nil _ _ _ _) u1 rfl H1.out.1 H1.out.2 ?c1 (Nat.le_refl _) ?_)
          case c1 => rw [HL1.out]; omega
          intro v1 w2 hown1 hg1 _
          have K1 := Lib.hid (TurnIn.of_grown (lo := 0) (hi := 0) hg1 (fun g h => by simp [Value.ownBlock] at h))
          rw [HL1.out] at hown1
          have HO1 := Lib.hid (hown1.alloc (.cells #[.int .i64 (i : Int)] 3))
          have KA := Lib.hid (turn_trans K1.out (turn_alloc w2 (.cells #[.int .i64 (i : Int)] 3)) (by omega))
          have hz1 := K1.out.size
          clear hown1 hg1 K1
          go_wp2_with (at_builtin; refine wpList_append1 rfl _ _ _ rfl wc.heap.size 3 _ _ Try.underlying28 infoInt rfl _ k _ rfl HO1.out w2.heap.size (.int .i64 (i : Int)) rfl ?c1 rfl ?c2 ?c3 ?c4 ?_)
          case c1 => simp
          case c2 => omega
          case c3 => omega
          case c4 => simp; omega
          intro v2 w3 hown2 hg2 _
          have K2 := Lib.hid (growT KA.out hg2 (fun g e => (HO1.out.lt g e).1))
          have HO2 : Hid (w3.ownsRow wc.heap.size 3 1 v2 (k + 1) (ints (l1 ++ [(i : Int)]))) := by
            show World.ownsRow _ _ _ _ _ _ _
            rw [ints_append]; exact hown2
          have HS2 := Lib.hid (H2.out.1.touch K2.out)
          have HN2 := Lib.hid H2.out.2
          have hz2 := K2.out.size
          clear hown2 hg2 KA HO1 H1 H2
          go_wp2_with (at_builtin; refine wpList_appendIs rfl _ _ _ rfl wc.heap.size 3 _ _ Try.underlying28 infoInt rfl (by omega) _ (k + 1) _ l2 rfl HO2.out u2 rfl HS2.out HN2.out ?d1 ?d2 ?_)
          case d1 => rw [HL2.out]; omega
          case d2 => omega
          intro v3 w4 hown3 hg3 _
          have K3 := Lib.hid (growT K2.out hg3 (fun g e => (HO2.out.lt g e).1))
          have HOF : Hid (OwnInts 3 w4 w.heap.size w4.heap.size v3 (natI (trnN s (i + 1)))) := by
            show OwnInts _ _ _ _ _ _
            refine ⟨own_base (base := wc.heap.size) ?_ (by omega), Nat.le_refl _, fun g hg => (hown3.lt g hg).2⟩
            rw [natI_len, trnN_len, ← HFI.out, ← (show k + 1 + (i - k) = i + 1 by omega)]
            rw [HL2.out] at hown3
            simpa using hown3
          have HTF := Lib.hid (turn_trans HTU.out (turn_trans HTC.out K3.out (by omega)) (by omega))
          clear hown3 hg3 K2 K3 HO2 HS2 HN2
          go_wp2_with fail
          go_roundw
          case rel => exact ⟨i + 1, by omega, by go_num, HOF, HTF⟩
          case measure => simp [intOf]; omega
    · obtain rfl : i = n := by omega
      have hki : ¬ (i : Int) < (i : Int) := by omega
      go_wp2_with fail
      go_ret
      exact ⟨_, rfl, HOW.out, HTU.out⟩
end Go.Proofs.Ytbfchebnooanjaa

/- Chapter 11: RunsIn, the program's and the model's. -/
namespace G294
open Go Go.RowKit
def newRun (s : List UInt8) (k : Nat) : Bool := decide (k = 0 ∨ s.getD k 0 ≠ s.getD (k - 1) 0)
def rnsN (s : List UInt8) : Nat → Nat
  | 0 => 0
  | k + 1 => rnsN s k + (if newRun s k = true then 1 else 0)
theorem rnsN_le (s : List UInt8) : ∀ k, rnsN s k ≤ k
  | 0 => Nat.le_refl _
  | k + 1 => by have := rnsN_le s k; unfold rnsN; split <;> omega
theorem rns_first (s : List UInt8) : rnsN s 1 = rnsN s 0 + 1 := by
  show rnsN s 0 + (if newRun s 0 = true then 1 else 0) = _
  rw [if_pos (by simp [newRun])]
theorem rns_same {s : List UInt8} {q : Nat} (h : s.getD (q + 1) 0 = s.getD q 0) : rnsN s (q + 1 + 1) = rnsN s (q + 1) := by
  show rnsN s (q + 1) + (if newRun s (q + 1) = true then 1 else 0) = _
  have hn : ¬ newRun s (q + 1) = true := by
    show ¬ decide (q + 1 = 0 ∨ s.getD (q + 1) 0 ≠ s.getD q 0) = true
    rw [decide_eq_true_eq]
    rintro (e | e)
    · omega
    · exact e h
  rw [if_neg hn, Nat.add_zero]
theorem rns_more {s : List UInt8} {q : Nat} (h : s.getD (q + 1) 0 ≠ s.getD q 0) : rnsN s (q + 1 + 1) = rnsN s (q + 1) + 1 := by
  show rnsN s (q + 1) + (if newRun s (q + 1) = true then 1 else 0) = _
  have hn : newRun s (q + 1) = true := by
    show decide (q + 1 = 0 ∨ s.getD (q + 1) 0 ≠ s.getD q 0) = true
    rw [decide_eq_true_eq]
    exact .inr h
  rw [if_pos hn]
def runR (s : List UInt8) : Int := if trnOk s = true then (rnsN s s.length : Nat) else 0
theorem runR_no {s : List UInt8} (h : trnOk s = false) : runR s = 0 := if_neg (by rw [h]; decide)
theorem runR_yes {s : List UInt8} (h : trnOk s = true) : runR s = (rnsN s s.length : Nat) := if_pos h
end G294
namespace Go.Proofs.Ytbfchebnooanjaa
open Go.RowKit G294

set_option maxRecDepth 100000 in
set_option maxHeartbeats 2000000 in
theorem runsIn_own (s : List UInt8) (w : World) (hs : s.length ≤ 1000000000000) : Calls Try.prog 27 #[.string (str s)] w (RetIntOk w (runR s) (trnOk s)) := by
  have hsz : (str s).size = s.length := str_size s
  have HG := Lib.hid (fun W => goodTurnText_any s W hs)
  by_cases h : trnOk s = true
  · have HO := Lib.hid h
    have HR := Lib.hid (runR_yes h)
    have hn : s.length ≤ 120 := by simpa [trnOk] using h
    rw [HO.out] at HG
    rw [HR.out, HO.out]
    have HL := Lib.hid (rnsN_le s)
    have HSG := Lib.hid (fun k h => str_get s k h)
    clear h
    generalize s.length = n at *
    go_enter Try.func27, Try.ntmps27
    go_wp2_with fail
    refine (HG.out _).mono ?_
    rintro e w' ⟨rfl, rfl⟩
    go_wp2_with fail
    go_loopw [4, 11] (fun x y wr => ∃ k : Nat, k ≤ n ∧ y = .int .i64 k ∧ x = .int .i64 (rnsN s k : Nat) ∧ Below w.heap.size w wr) (fun _ y _ => n - (intOf y).toNat)
    case atStart => exact ⟨0, Nat.zero_le _, rfl, rfl, Below.refl _ _⟩
    case round =>
      obtain ⟨k, hk, rfl, rfl, hb⟩ := hrel
      by_cases hlt : k < n
      · have hki : (k : Int) < (n : Int) := by omega
        have hle := HL.out k
        by_cases hz : k = 0
        · subst hz
          have HE : Hid (rnsN s 1 = rnsN s 0 + 1) := rns_first s
          generalize rnsN s 0 = x at *
          have hz0 : ((0 : Nat) : Int) = 0 := rfl
          go_wp2_with fail
          go_quiet (fail)
          go_wp2_with fail
          go_roundw
          case rel => exact ⟨1, by omega, by go_num, by rw [HE.out]; go_num, below_drewN hb _⟩
          case measure => simp [intOf]; omega
        · obtain ⟨q, rfl⟩ : ∃ q, k = q + 1 := ⟨k - 1, by omega⟩
          have hz0 : ((q : Int) + 1 == 0) = false := by rw [beq_eq_false_iff_ne]; omega
          have g1 := HSG.out (q + 1) (by omega)
          have g2 := HSG.out q (by omega)
          by_cases hx : s.getD (q + 1) 0 = s.getD q 0
          · have HE : Hid (rnsN s (q + 1 + 1) = rnsN s (q + 1)) := rns_same hx
            have hbb := bne_byte (x := s.getD (q + 1) 0) (y := s.getD q 0) false (by rw [hx]; exact bne_self_eq_false _)
            generalize s.getD (q + 1) 0 = c at *
            generalize s.getD q 0 = d at *
            generalize rnsN s (q + 1) = x at *
            clear hx hz
            go_wp2_with fail
            go_quiet (fail)
            go_wp2_with fail
            go_roundw
            case rel => exact ⟨q + 1 + 1, by omega, by go_num, by rw [HE.out], below_drewN hb _⟩
            case measure => simp [intOf]; omega
          · have HE : Hid (rnsN s (q + 1 + 1) = rnsN s (q + 1) + 1) := rns_more hx
            have hbb := bne_byte (x := s.getD (q + 1) 0) (y := s.getD q 0) true (bne_iff_ne.2 hx)
            generalize s.getD (q + 1) 0 = c at *
            generalize s.getD q 0 = d at *
            generalize rnsN s (q + 1) = x at *
            clear hx hz
            go_wp2_with fail
            go_quiet (fail)
            go_wp2_with fail
            go_roundw
            case rel => exact ⟨q + 1 + 1, by omega, by go_num, by rw [HE.out]; go_num, below_drewN hb _⟩
            case measure => simp [intOf]; omega
      · obtain rfl : k = n := by omega
        have hki : ¬ (k : Int) < (k : Int) := by omega
        go_wp2_with fail
        go_ret2
        exact ⟨rfl, TurnIn.of_below hb⟩
  · have HO : Hid (trnOk s = false) := by show trnOk s = false; simpa using h
    have HR := Lib.hid (runR_no HO.out)
    rw [HO.out] at HG
    rw [HR.out, HO.out]
    clear h
    go_enter Try.func27, Try.ntmps27
    go_wp2_with fail
    refine (HG.out _).mono ?_
    rintro e w' ⟨rfl, rfl⟩
    go_wp2_with fail
    go_ret2
    exact ⟨rfl, TurnIn.refl _⟩

set_option maxRecDepth 100000 in
set_option maxHeartbeats 2000000 in
theorem l11Runs_own (s : List UInt8) (w : World) (hs : s.length ≤ 120) : Calls Try.prog 53 #[.string (str s)] w (RetInt w (rnsN s s.length : Nat)) := by
  have hsz : (str s).size = s.length := str_size s
  have HL := Lib.hid (rnsN_le s)
  have HSG := Lib.hid (fun k h => str_get s k h)
  generalize s.length = n at *
  go_enter Try.func53, Try.ntmps53
  go_wp2_with fail
  go_loopw [3, 4] (fun x y wr => ∃ k : Nat, k ≤ n ∧ y = .int .i64 k ∧ x = .int .i64 (rnsN s k : Nat) ∧ Below w.heap.size w wr) (fun _ y _ => n - (intOf y).toNat)
  case atStart => exact ⟨0, Nat.zero_le _, rfl, rfl, Below.refl _ _⟩
  case round =>
    obtain ⟨k, hk, rfl, rfl, hb⟩ := hrel
    by_cases hlt : k < n
    · have hki : (k : Int) < (n : Int) := by omega
      have hle := HL.out k
      by_cases hz : k = 0
      · subst hz
        have HE : Hid (rnsN s 1 = rnsN s 0 + 1) := rns_first s
        generalize rnsN s 0 = x at *
        go_wp2_with fail
        go_quiet (fail)
        go_wp2_with fail
        go_roundw
        case rel => exact ⟨1, by omega, by go_num, by rw [HE.out]; go_num, below_drewN hb _⟩
        case measure => simp [intOf]; omega
      · obtain ⟨q, rfl⟩ : ∃ q, k = q + 1 := ⟨k - 1, by omega⟩
        have hz0 : ((q : Int) + 1 == 0) = false := by rw [beq_eq_false_iff_ne]; omega
        have g1 := HSG.out (q + 1) (by omega)
        have g2 := HSG.out q (by omega)
        by_cases hx : s.getD (q + 1) 0 = s.getD q 0
        · have HE : Hid (rnsN s (q + 1 + 1) = rnsN s (q + 1)) := rns_same hx
          have hbb := bne_byte (x := s.getD q 0) (y := s.getD (q + 1) 0) false (by rw [hx]; exact bne_self_eq_false _)
          generalize s.getD (q + 1) 0 = c at *
          generalize s.getD q 0 = d at *
          generalize rnsN s (q + 1) = x at *
          clear hx hz
          go_wp2_with fail
          go_quiet (fail)
          go_wp2_with fail
          go_roundw
          case rel => exact ⟨q + 1 + 1, by omega, by go_num, by rw [HE.out], below_drewN hb _⟩
          case measure => simp [intOf]; omega
        · have HE : Hid (rnsN s (q + 1 + 1) = rnsN s (q + 1) + 1) := rns_more hx
          have hbb := bne_byte (x := s.getD q 0) (y := s.getD (q + 1) 0) true (bne_iff_ne.2 (Ne.symm hx))
          generalize s.getD (q + 1) 0 = c at *
          generalize s.getD q 0 = d at *
          generalize rnsN s (q + 1) = x at *
          clear hx hz
          go_wp2_with fail
          go_quiet (fail)
          go_wp2_with fail
          go_roundw
          case rel => exact ⟨q + 1 + 1, by omega, by go_num, by rw [HE.out]; go_num, below_drewN hb _⟩
          case measure => simp [intOf]; omega
    · obtain rfl : k = n := by omega
      have hki : ¬ (k : Int) < (k : Int) := by omega
      go_wp2_with fail
      go_ret
      exact ⟨rfl, TurnIn.of_below hb⟩

set_option maxHeartbeats 1000000 in
theorem sRunsIn_own (s : List UInt8) (w : World) (hs : s.length ≤ 1000000000000) : Calls Try.prog 28 #[.string (str s)] w (RetIntOk w (runR s) (trnOk s)) := by
  have hsz : (str s).size = s.length := str_size s
  by_cases h : s.length ≤ 120
  · have HO : Hid (trnOk s = true) := by show _ = _; simpa [trnOk] using h
    have HR := Lib.hid (runR_yes HO.out)
    have HT := Lib.hid (l11Runs_own s w h)
    rw [HR.out, HO.out]
    have hle := rnsN_le s s.length
    generalize rnsN s s.length = x at *
    generalize s.length = n at *
    go_enter Try.func28, Try.ntmps28
    go_wp2_with fail
    refine HT.out.mono ?_
    rintro e w1 ⟨rfl, k1⟩
    have K1 := Lib.hid k1
    clear k1
    go_wp2_with fail
    go_ret2
    exact ⟨rfl, K1.out⟩
  · have HO : Hid (trnOk s = false) := by show _ = _; simpa [trnOk] using h
    have HR := Lib.hid (runR_no HO.out)
    rw [HR.out, HO.out]
    generalize s.length = n at *
    go_enter Try.func28, Try.ntmps28
    go_wp2_with fail
    go_ret2
    exact ⟨rfl, TurnIn.refl _⟩
end Go.Proofs.Ytbfchebnooanjaa

/- Chapter 11: CountPattern, the program's and the model's. -/
namespace G294
open Go Go.RowKit
def isAt (s p : List UInt8) (k : Nat) : Bool := (rotL s k).take p.length == p
def cntN (s p : List UInt8) : Nat → Nat
  | 0 => 0
  | k + 1 => cntN s p k + (if isAt s p k = true then 1 else 0)
theorem cntN_le (s p : List UInt8) : ∀ k, cntN s p k ≤ k
  | 0 => Nat.le_refl _
  | k + 1 => by have := cntN_le s p k; unfold cntN; split <;> omega
def cntOk (s p : List UInt8) : Bool := decide (s.length ≤ 120 ∧ 1 ≤ p.length ∧ p.length ≤ s.length)
def cntR (s p : List UInt8) : Int := if cntOk s p = true then (cntN s p s.length : Nat) else 0
theorem cntR_no {s p : List UInt8} (h : cntOk s p = false) : cntR s p = 0 := if_neg (by rw [h]; decide)
theorem cntR_yes {s p : List UInt8} (h : cntOk s p = true) : cntR s p = (cntN s p s.length : Nat) := if_pos h
theorem pre_extract (t : List UInt8) (m : Nat) : (str t).extract 0 m = str (t.take m) := by
  unfold str
  apply ByteArray.ext
  simp [ByteArray.data_extract]
end G294
namespace Go.Proofs.Ytbfchebnooanjaa
open Go.RowKit G294

set_option maxHeartbeats 1000000 in
theorem hasPrefix2_any (t p : List UInt8) (w : World) (hp : p.length ≤ t.length) (ht : t.length ≤ 1000000) : Calls Try.prog 64 #[.string (str t), .string (str p)] w fun e w' => e = .returned (.bool (t.take p.length == p)) ∧ w = w' := by
  have h1 : (str t).size = t.length := str_size t
  have h2 : (str p).size = p.length := str_size p
  have hx := pre_extract t p.length
  have e1 : (str (t.take p.length)).toList = t.take p.length := str_toList _
  have e2 : (str p).toList = p := str_toList _
  generalize t.take p.length = x at *
  generalize p.length = m at *
  generalize t.length = n at *
  go_enter Try.func64, Try.ntmps64
  go_wp2_with fail
  go_ret
  exact ⟨rfl, rfl⟩

set_option maxHeartbeats 1000000 in
theorem hasPrefix_any (t p : List UInt8) (w : World) (hp : p.length ≤ t.length) (ht : t.length ≤ 1000000) : Calls Try.prog 55 #[.string (str t), .string (str p)] w fun e w' => e = .returned (.bool (t.take p.length == p)) ∧ w = w' := by
  have HH := Lib.hid (fun W => hasPrefix2_any t p W hp ht)
  generalize (t.take p.length == p) = b at *
  go_enter Try.func55, Try.ntmps55
  go_wp2_with fail
  refine (HH.out _).mono ?_
  rintro e w' ⟨rfl, rfl⟩
  go_wp2_with fail
  go_ret
  exact ⟨rfl, rfl⟩

set_option maxRecDepth 100000 in
set_option maxHeartbeats 2000000 in
theorem countPattern_own (s p : List UInt8) (w : World) (hs : s.length ≤ 1000000000000) (hp : p.length ≤ 1000000000000) : Calls Try.prog 31 #[.string (str s), .string (str p)] w (RetIntOk w (cntR s p) (cntOk s p)) := by
  have hsz : (str s).size = s.length := str_size s
  have hsp : (str p).size = p.length := str_size p
  have HG := Lib.hid (fun W => goodTurnText_any s W hs)
  by_cases h1 : s.length ≤ 120
  · rw [show trnOk s = true by simpa [trnOk] using h1] at HG
    by_cases h2 : p.length = 0
    · have HO : Hid (cntOk s p = false) := by show _ = _; simp [cntOk, h2]
      have HR := Lib.hid (cntR_no HO.out)
      rw [HR.out, HO.out]
      rw [h2] at hsp
      generalize s.length = n at *
      clear h2
      go_enter Try.func31, Try.ntmps31
      go_wp2_with fail
      refine (HG.out _).mono ?_
      rintro e w' ⟨rfl, rfl⟩
      go_wp2_with fail
      go_ret2
      exact ⟨rfl, TurnIn.refl _⟩
    · have h2b : ((p.length : Int) == 0) = false := beq_eq_false_iff_ne.2 (by omega)
      by_cases h3 : p.length ≤ s.length
      · have h3i : ¬ (s.length : Int) < (p.length : Int) := by omega
        have h3d : decide ((s.length : Int) < (p.length : Int)) = false := decide_eq_false h3i
        have h3n : decide (s.length < p.length) = false := decide_eq_false (by omega)
        have HO : Hid (cntOk s p = true) := by show _ = _; simp only [cntOk, decide_eq_true_eq]; omega
        have HR := Lib.hid (cntR_yes HO.out)
        rw [HR.out, HO.out]
        have HA : Hid (str s ++ str s = str (s ++ s)) := str_append s s
        have HRI := Lib.hid (fun k W (hk : k ≤ s.length) => rotationIn_any s k W hk (by omega))
        have HHP := Lib.hid (fun k W (hk : k ≤ s.length) => hasPrefix_any (rotL s k) p W (by rw [rotL_len s hk]; exact h3) (by rw [rotL_len s hk]; omega))
        have HN : Hid (∀ k, cntN s p (k + 1) = cntN s p k + (if isAt s p k = true then 1 else 0)) := fun _ => rfl
        have HI : Hid (∀ k, ((rotL s k).take p.length == p) = isAt s p k) := fun _ => rfl
        have HL := Lib.hid (cntN_le s p)
        generalize s.length = n at *
        generalize hmm : p.length = m at *
        clear h2 hmm
        go_enter Try.func31, Try.ntmps31
        go_wp2_with fail
        refine (HG.out _).mono ?_
        rintro e w' ⟨rfl, rfl⟩
        go_wp2_with fail
        rw [HA.out]
        go_loopw [7, 29] (fun x y wr => ∃ k : Nat, k ≤ n ∧ y = .int .i64 k ∧ x = .int .i64 (cntN s p k : Nat) ∧ Below w.heap.size w wr) (fun _ y _ => n - (intOf y).toNat)
        case atStart => exact ⟨0, Nat.zero_le _, rfl, rfl, Below.refl _ _⟩
        case round =>
          obtain ⟨k, hk, rfl, rfl, hb⟩ := hrel
          by_cases hlt : k < n
          · have hki : (k : Int) < (n : Int) := by omega
            have hle := HL.out k
            have HRK := Lib.hid (fun W => HRI.out k W (by omega))
            have HHK := Lib.hid (fun W => HHP.out k W (by omega))
            have HNK := Lib.hid (HN.out k)
            rw [HI.out k] at HHK
            go_wp2_with fail
            refine (HRK.out _).mono ?_
            rintro e w' ⟨rfl, rfl⟩
            go_wp2_with fail
            refine (HHK.out _).mono ?_
            rintro e w' ⟨rfl, rfl⟩
            generalize isAt s p k = b at *
            generalize cntN s p k = x at *
            cases b with
            | true =>
              go_wp2_with fail
              go_roundw
              case rel => exact ⟨k + 1, by omega, by go_num, by rw [HNK.out]; go_num, hb⟩
              case measure => simp [intOf]; omega
            | false =>
              go_wp2_with fail
              go_roundw
              case rel => exact ⟨k + 1, by omega, by go_num, by rw [HNK.out]; rfl, hb⟩
              case measure => simp [intOf]; omega
          · obtain rfl : k = n := by omega
            have hki : ¬ (k : Int) < (k : Int) := by omega
            go_wp2_with fail
            go_ret2
            exact ⟨rfl, TurnIn.of_below hb⟩
      · have h3i : (s.length : Int) < (p.length : Int) := by omega
        have HO : Hid (cntOk s p = false) := by show _ = _; simp only [cntOk, decide_eq_false_iff_not]; omega
        have HR := Lib.hid (cntR_no HO.out)
        rw [HR.out, HO.out]
        generalize s.length = n at *
        generalize p.length = m at *
        clear h2
        go_enter Try.func31, Try.ntmps31
        go_wp2_with fail
        refine (HG.out _).mono ?_
        rintro e w' ⟨rfl, rfl⟩
        go_wp2_with fail
        go_ret2
        exact ⟨rfl, TurnIn.refl _⟩
  · have HO : Hid (cntOk s p = false) := by show _ = _; simp only [cntOk, decide_eq_false_iff_not]; omega
    have HR := Lib.hid (cntR_no HO.out)
    rw [show trnOk s = false by simpa [trnOk] using h1] at HG
    rw [HR.out, HO.out]
    go_enter Try.func31, Try.ntmps31
    go_wp2_with fail
    refine (HG.out _).mono ?_
    rintro e w' ⟨rfl, rfl⟩
    go_wp2_with fail
    go_ret2
    exact ⟨rfl, TurnIn.refl _⟩

set_option maxRecDepth 100000 in
set_option maxHeartbeats 2000000 in
theorem sCountPattern_own (s p : List UInt8) (w : World) (hs : s.length ≤ 1000000000000) (hp : p.length ≤ 1000000000000) : Calls Try.prog 32 #[.string (str s), .string (str p)] w (RetIntOk w (cntR s p) (cntOk s p)) := by
  have hsz : (str s).size = s.length := str_size s
  have hsp : (str p).size = p.length := str_size p
  have HI := Lib.hid (fun W => l1In_any (p.length : Int) 1 (s.length : Int) W)
  by_cases h1 : s.length ≤ 120
  · by_cases h3 : 1 ≤ p.length ∧ p.length ≤ s.length
    · obtain ⟨h3a, h3b⟩ := h3
      have HIN : Hid (inB (p.length : Int) 1 (s.length : Int) = true) := by show _ = _; simp [inB]; omega
      have HO : Hid (cntOk s p = true) := by show _ = _; simp only [cntOk, decide_eq_true_eq]; omega
      have HR := Lib.hid (cntR_yes HO.out)
      rw [HR.out, HO.out]
      rw [HIN.out] at HI
      obtain ⟨cp, w1, hcv, hc1, hc2, hO, hb1⟩ := bytes_of_str (P := Try.prog) w 9 22 5 s Try.underlying9 Try.underlying22 Try.underlying5 (by unfold maxLen; omega)
      have HB1 := Lib.hid (TurnIn.of_below hb1)
      have HT := Lib.hid (fun k W (hk : k ≤ s.length) => l11Turn_any s k W hk (by omega))
      have HZ := Lib.hid (fun k (hk : k ≤ s.length) => (show (str (rotL s k)).size = s.length by rw [str_size, rotL_len s hk]))
      have HX := Lib.hid (fun k => pre_extract (rotL s k) p.length)
      have HE := Lib.hid (fun k => (show ((str ((rotL s k).take p.length)).toList == (str p).toList) = isAt s p k by rw [str_toList, str_toList]; rfl))
      have HN : Hid (∀ k, cntN s p (k + 1) = cntN s p k + (if isAt s p k = true then 1 else 0)) := fun _ => rfl
      have HL := Lib.hid (cntN_le s p)
      clear hb1 hO
      generalize s.length = n at *
      generalize hmm : p.length = m at *
      clear hmm
      go_enter Try.func32, Try.ntmps32
      go_wp2_with fail
      refine (HI.out _).mono ?_
      rintro e w' ⟨rfl, rfl⟩
      go_wp2_with fail
      go_loopw [6, 22] (fun x y wr => ∃ k : Nat, k ≤ n ∧ y = .int .i64 k ∧ x = .int .i64 (cntN s p k : Nat) ∧ Hid (TurnIn 0 0 w wr)) (fun _ y _ => n - (intOf y).toNat)
      case atStart => exact ⟨0, Nat.zero_le _, rfl, rfl, HB1⟩
      case round =>
        clear hcv HB1
        obtain ⟨k, hk, rfl, rfl, HK⟩ := hrel
        by_cases hlt : k < n
        · have hki : (k : Int) < (n : Int) := by omega
          have hle := HL.out k
          have HTK := Lib.hid (fun W => HT.out k W (by omega))
          have hz := HZ.out k (by omega)
          have hx := HX.out k
          have he := HE.out k
          have HNK := Lib.hid (HN.out k)
          generalize (rotL s k).take m = y at *
          generalize rotL s k = r at *
          generalize isAt s p k = b at *
          generalize cntN s p k = x at *
          go_wp2_with fail
          refine (HTK.out _).mono ?_
          rintro e w3 ⟨rfl, k3⟩
          have K3 := Lib.hid (turn_trans HK.out k3 (by omega))
          clear k3
          cases b with
          | true =>
            go_wp2_with fail
            go_roundw
            case rel => exact ⟨k + 1, by omega, by go_num, by rw [HNK.out]; go_num, K3⟩
            case measure => simp [intOf]; omega
          | false =>
            go_wp2_with fail
            go_roundw
            case rel => exact ⟨k + 1, by omega, by go_num, by rw [HNK.out]; rfl, K3⟩
            case measure => simp [intOf]; omega
        · obtain rfl : k = n := by omega
          have hki : ¬ (k : Int) < (k : Int) := by omega
          go_wp2_with fail
          go_ret2
          exact ⟨rfl, HK.out⟩
    · have HIN : Hid (inB (p.length : Int) 1 (s.length : Int) = false) := by
        show _ = _
        rw [Bool.eq_false_iff]; intro e
        simp only [inB, decide_eq_true_eq] at e
        omega
      have HO : Hid (cntOk s p = false) := by show _ = _; simp only [cntOk, decide_eq_false_iff_not]; omega
      have HR := Lib.hid (cntR_no HO.out)
      rw [HR.out, HO.out]
      rw [HIN.out] at HI
      clear h3
      generalize s.length = n at *
      generalize p.length = m at *
      go_enter Try.func32, Try.ntmps32
      go_wp2_with fail
      refine (HI.out _).mono ?_
      rintro e w' ⟨rfl, rfl⟩
      go_wp2_with fail
      go_ret2
      exact ⟨rfl, TurnIn.refl _⟩
  · have HO : Hid (cntOk s p = false) := by show _ = _; simp only [cntOk, decide_eq_false_iff_not]; omega
    have HR := Lib.hid (cntR_no HO.out)
    rw [HR.out, HO.out]
    generalize s.length = n at *
    go_enter Try.func32, Try.ntmps32
    go_wp2_with fail
    go_ret2
    exact ⟨rfl, TurnIn.refl _⟩
end Go.Proofs.Ytbfchebnooanjaa
