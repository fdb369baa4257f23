/- Chapter 11: the rooms of the bytes, the program's. -/
import Derived.Test.YtbfchebnooanjaaNxtMath
import Derived.Test.YtbfchebnooanjaaArrV
import Derived.Test.YtbfchebnooanjaaTurI
import Derived.Lib.Bytealg
set_option linter.unusedSimpArgs false
set_option linter.unusedVariables false
namespace G294
open Go Go.RowKit
theorem ofNat_toNat {b : Nat} (h : b < 256) : (UInt8.ofNat b).toNat = b := by simp [UInt8.toNat_ofNat', Nat.mod_eq_of_lt h]
theorem roomV_zero (g : Nat) (s : List UInt8) (b : Nat) : roomV g s 0 b = .slice (some ⟨g, offN s b, none⟩) 0 (cntB s b) := rfl
theorem laid_one (g : Nat) (s : List UInt8) (b : Nat) : ∀ u ∈ laidL g s b, ∃ A n c, u = Value.slice A n c := by
  intro u hu
  rcases List.mem_append.1 hu with h | h
  · obtain ⟨i, _, rfl⟩ := List.mem_map.1 h
    exact ⟨_, _, _, rfl⟩
  · rw [(List.mem_replicate.1 h).2]; exact ⟨_, _, _, rfl⟩
end G294
namespace Go.Proofs.Ytbfchebnooanjaa
open Go.RowKit G294

set_option maxRecDepth 100000 in
set_option maxHeartbeats 1000000 in
theorem zeroRooms : (Try.prog.info? 62).map (·.zero) = some (some (aggV (List.replicate 256 (.slice none 0 0)))) := by kernel_rfl

theorem sizeRooms : (Try.prog.info? 62).map (·.size) = some 256 := by kernel_rfl

set_option maxRecDepth 100000 in
set_option maxHeartbeats 1000000 in
theorem count1_any (s : List UInt8) (c : UInt8) (w : World) : Calls Try.prog 61 #[.string (str s), .string (str [c])] w fun e w' => e = .returned (.int .i64 (s.count c : Nat)) ∧ w = w' := by
  have h1 : (str [c]).size = 1 := rfl
  have hg : (str [c])[0] = c := rfl
  have hr := fun W => Lib.run_countString (P := Try.prog) (str s) (c.toNat : Int) W
  have he : Hid (((Lib.countByte (str s).data.toList ((c.toNat : Int)).toNat.toUInt8 : Nat) : Int) = (s.count c : Nat)) := by
    show _ = _
    have e1 : ((c.toNat : Int)).toNat.toUInt8 = c := by simp
    rw [e1]; rfl
  rw [he.out] at hr
  generalize s.count c = n at *
  clear he
  go_enter Try.func61, Try.ntmps61
  go_wp2
  rw [run_callFunc_extern Try.func69 (by kernel_rfl) (by kernel_rfl) (by kernel_rfl) (e := Extern.BytealgCount.count) (by kernel_rfl), hr]
  simp only [Result.andThen]
  rw [Oper.upon_value]
  go_wp2
  go_ret
  exact ⟨rfl, rfl⟩

theorem sliceRoom (g n cp f e : Nat) (h1 : f ≤ e) (h2 : e ≤ cp) (W : World) : (Instr.slice 28 (.slice (some ⟨g, 0, none⟩) n cp) (some (.int .i64 (f : Int))) (some (.int .i64 (f : Int))) (some (.int .i64 (e : Int)))).run Try.prog W = .ok (.slice (some ⟨g, if e - f = 0 then 0 else f, none⟩) 0 (e - f)) W := by
  have hel : (sizeOf (Try.prog.elem 28)).run Try.prog W = .ok 1 W := by kernel_rfl
  rw [run_slice_lhm W 28 _ _ cp (by kernel_rfl) .i64 .i64 .i64 f f e (by omega) (by omega) (by omega) (by omega), hel]
  by_cases h : e = f
  · subst h; simp [Result.andThen, sliced, Addr.add]
  · have h3 : ¬ e - f = 0 := by omega
    simp [Result.andThen, sliced, Addr.add, h, h3] <;> omega

set_option maxRecDepth 100000 in
set_option maxHeartbeats 4000000 in
theorem roomsIn_own (s : List UInt8) (g cp : Nat) (w : World) (hs : s.length ≤ 120) (hc : s.length ≤ cp) :
    Calls Try.prog 51 #[.slice (some ⟨g, 0, none⟩) s.length cp, .string (str s)] w fun e w' => e = .returned (aggV (roomsL g s 0)) ∧ TurnIn 0 0 w w' := by
  have HCN := Lib.hid (fun c W => count1_any s c W)
  have HCB := Lib.hid (fun b (hb : b < 256) => (show s.count (UInt8.ofNat b) = cntB s b by rw [← cntB_count, ofNat_toNat hb]))
  have HFS := Lib.hid (fstN_succ s)
  have HFL := Lib.hid (fun b (hb : b ≤ 256) => fstN_le (s := s) hb)
  have HF0 := Lib.hid (fstN_zero s)
  have HL0 : Hid (laidL g s 0 = List.replicate 256 (.slice none 0 0)) := Lib.hid (by simp [laidL])
  have HLA := Lib.hid (laidL_all g s)
  have HLL := Lib.hid (fun b (hb : b ≤ 256) => laidL_len g s hb)
  have HLS := Lib.hid (fun b (hb : b < 256) => laidL_step g s hb)
  have HRO := Lib.hid (fun u hu => laid_one g s 256 u (by rw [laidL_all]; exact hu))
  have HOF : Hid (∀ b, offN s b = if cntB s b = 0 then 0 else fstN s b) := fun _ => rfl
  generalize hnn : s.length = n at *
  clear hnn
  go_enter Try.func51, Try.ntmps51
  go_wp2_with (refine wpList_alloc_arv rfl 62 rfl _ zeroRooms ?_)
  intro W1 hW1
  replace hW1 := hW1.out
  have t1 := hW1 ▸ turn_alloc w (.cells (List.replicate 256 (Value.slice none 0 0)).toArray 62)
  have r1 := hW1 ▸ ArrW.new w 62 (List.replicate 256 (Value.slice none 0 0))
  have z1 := hW1 ▸ World.size_alloc w (.cells (List.replicate 256 (Value.slice none 0 0)).toArray 62)
  clear hW1
  generalize hB : w.heap.size = B at *
  have HBE := Lib.hid hB
  clear hB
  go_wp2_with (refine wpList_alloc_arv rfl 62 rfl _ zeroRooms ?_)
  intro W2 hW2
  replace hW2 := hW2.out
  have t2 := hW2 ▸ turn_alloc W1 (.cells (List.replicate 256 (Value.slice none 0 0)).toArray 62)
  have r2 := hW2 ▸ ArrW.new W1 62 (List.replicate 256 (Value.slice none 0 0))
  rw [z1] at r2
  have R1 := Lib.hid (r1.keep t2 (by omega))
  rw [← HL0.out] at r2
  have R2 := Lib.hid r2
  have TW := Lib.hid (turn_trans t1 t2 (by omega))
  have hz2 := t2.size
  clear hW2 z1 t1 t2 r1 r2
  obtain ⟨D, hD⟩ : ∃ D, B + 1 = D := ⟨_, rfl⟩
  have hBD : B < D := by omega
  rw [hD] at R2 ⊢
  have HD := Lib.hid hD
  clear hD
  have HT0 := TW
  clear TW
  go_wp2_with fail
  go_loopw [6, 9] (fun x y wr => ∃ b : Nat, b ≤ 256 ∧ y = .int .i64 b ∧ x = .int .i64 (fstN s b : Nat) ∧ Hid (ArrW wr B 62 (List.replicate 256 (.slice none 0 0))) ∧ Hid (ArrW wr D 62 (laidL g s b)) ∧ Hid (TurnIn 0 0 w wr) ∧ W2.heap.size ≤ wr.heap.size) (fun _ y _ => 256 - (intOf y).toNat)
  case atStart => exact ⟨0, Nat.zero_le _, rfl, by rw [HF0.out]; rfl, R1, R2, HT0, Nat.le_refl _⟩
  case round =>
    clear R1 R2 HT0
    obtain ⟨b, hb, rfl, rfl, R1, R2, HT, hsw⟩ := hrel
    by_cases hlt : b < 256
    · have hki : (b : Int) < 256 := by omega
      have HLS2 := Lib.hid (HLS.out b hlt)
      have hfl := HFL.out (b + 1) (by omega)
      have HOB := Lib.hid (HOF.out b)
      have hfs := HFS.out b
      have HCB2 := Lib.hid (HCB.out b hlt)
      have HBN := Lib.hid (ofNat_toNat hlt)
      have HRV := Lib.hid (roomV_zero g s b)
      have c0 := R2.out.cell (k := b) (x := (laidL g s b).getD b (.slice none 0 0)) (by
        rw [List.getD_eq_getElem?_getD]
        have : b < (laidL g s b).length := by rw [HLL.out b (by omega)]; exact hlt
        simp [List.getElem?_eq_getElem this])
      have HFZ := Lib.hid (R2.out.frozen b)
      generalize (laidL g s b).getD b (.slice none 0 0) = old at *
      obtain ⟨f, hf⟩ : ∃ f, fstN s b = f := ⟨_, rfl⟩
      obtain ⟨e, he⟩ : ∃ e, fstN s (b + 1) = e := ⟨_, rfl⟩
      rw [hf] at HOB hfs
      rw [he] at hfs hfl
      rw [hf]
      obtain ⟨q, hq⟩ : ∃ q, cntB s b = q := ⟨_, rfl⟩
      rw [hq] at HOB hfs HCB2 HRV
      have hsum : (f : Int) + (q : Int) = (e : Int) := by omega
      have hqe : e - f = q := by omega
      have HS1 := fun W => sliceRoom g n cp f e (by omega) (by omega) W
      rw [hqe, ← HOB.out] at HS1
      rw [← HRV.out] at HS1
      have HE := Lib.hid he
      have HSA : ∀ W, (Instr.sliceAt 28 (.slice (some ⟨g, 0, none⟩) n cp) (some (.int .i64 (f : Int))) (some (.int .i64 (f : Int))) (some (.int .i64 (e : Int)))).run Try.prog W = .ok (roomV g s 0 b) W := fun W => by
        rw [run_sliceAt_slice W 28 _ _ _ _ (by kernel_rfl)]; exact HS1 W
      have HC := Lib.hid (HCN.out (UInt8.ofNat b))
      rw [HCB2.out] at HC
      generalize UInt8.ofNat b = by_ at *
      have hu8 : (b : Int) % 256 = (b : Int) := by omega
      have hseen : Seen (wr.alloc (.cells #[.int .u8 (b : Int)] 5)) (.slice (some ⟨wr.heap.size, 0, none⟩) 1 1) (bys [by_]) := by
        refine ⟨_, 1, rfl, by simp, by unfold maxLen; omega, fun _ => ⟨wr.heap.size, 0, rfl, by simp, fun i u hu => ?_⟩⟩
        match i, hu with
        | 0, hu =>
          simp only [bys, List.map_cons, List.getElem?_cons_zero, Option.some.injEq] at hu
          rw [← hu, HBN.out]; simp
      have hconv := run_string_seen (P := Try.prog) 22 5 9 Try.underlying22 Try.underlying5 Try.underlying9 hseen
      have ta := turn_alloc wr (.cells #[.int .u8 (b : Int)] 5)
      have HTA := Lib.hid (turn_trans HT.out ta (by omega))
      have hbl := R2.out.lt
      have c1 : (wr.alloc (.cells #[.int .u8 (b : Int)] 5)).cell? ⟨D, b, none⟩ = some old := (World.cell?_of_block (ta.block D hbl (by omega))).trans c0
      have f1 : (wr.alloc (.cells #[.int .u8 (b : Int)] 5)).frozen? ⟨D, b, none⟩ = false := (World.frozen?_of_block (ta.block D hbl (by omega))).trans HFZ.out
      have R2s := R2.out.set b (roomV g s 0 b)
      have R2a := Lib.hid (R2s.keep (turn_alloc (wr.setCell ⟨D, b, none⟩ (roomV g s 0 b)) (.cells #[.int .u8 (b : Int)] 5)) (by omega))
      clear R2s
      rw [HLS2.out] at R2a
      have hv : ∃ A n c, roomV g s 0 b = Value.slice A n c := ⟨_, _, _, rfl⟩
      generalize roomV g s 0 b = v at *
      obtain ⟨A', n', c', rfl⟩ := hv
      have ts := turn_setF wr D b (.slice A' n' c')
      have ts2 := turn_alloc (wr.setCell ⟨D, b, none⟩ (.slice A' n' c')) (.cells #[.int .u8 (b : Int)] 5)
      have R1b := Lib.hid ((R1.out.keep ts (by omega)).keep ts2 (by omega))
      have HTB := Lib.hid (turn_trans (turn_trans HT.out ts (by have := HBE.out; omega)) ts2 (by omega))
      clear ts ts2 HTA
      clear hseen ta R1 R2 HT hf he hq hfs hqe HOB HRV c0 HFZ
      go_wp2_with fail
      refine (HC.out _).mono ?_
      rintro e2 w3 ⟨rfl, rfl⟩
      go_wp2_with fail
      go_roundw
      case rel => exact ⟨b + 1, by omega, by go_num, by rw [HE.out], R1b, R2a, HTB, by simp; omega⟩
      case measure => simp [intOf]; omega
    · obtain rfl : b = 256 := by omega
      have hki : ¬ ((256 : Nat) : Int) < 256 := by omega
      rw [HLA.out] at R2
      have HRL := Lib.hid (roomsL_len g s 0)
      go_wp2_with (refine wpList_load_arv rfl 62 _ rfl D 256 256 28 _ _ rfl R2.out sizeRooms Try.underlying62 HRL.out ?_)
      intro u hu
      replace hu := hu.out
      subst hu
      go_wp2_with (refine wpList_store_arv rfl 62 _ _ rfl B 256 _ _ (roomsL g s 0) rfl rfl R1.out sizeRooms (by simp) HRL.out (slices_one (HRO.out)) ?_)
      intro W5 hW5
      replace hW5 := hW5.out
      have r5 := hW5 ▸ R1.out.row (roomsL g s 0)
      have t5 := hW5 ▸ turn_rowV wr B (roomsL g s 0).toArray
      have hb6 : TurnIn 0 0 w W5 := turn_trans HT.out t5 (by have := HBE.out; omega)
      clear hW5
      go_wp2_with fail
      exact bodyPost_ret (ret_arv rfl _ B 256 256 _ 28 _ rfl r5 Try.underlying62 sizeRooms HRL.out) rfl ⟨rfl, hb6⟩
end Go.Proofs.Ytbfchebnooanjaa
