/- Joined texts: ErrW5, ErrIs, ErrW6, FieldOps, Elim, Elim2, Grids2. -/
import Derived.Test.YtfglkgeeelapgaaGreatDoorBd05
import Derived.Test.YtfglkgeeelapgaaGreatDoorProg
import Derived.WalkKit
import Derived.LaidEql
import Derived.Stop.Asserts
import Derived.RowKitTokens
import Derived.Lib.Hide
import Derived.Test.YtfglkgeeelapgaaGreatDoorBd01
import Derived.Test.YtfglkgeeelapgaaGreatDoorBd03
import Derived.Test.YtfglkgeeelapgaaGreatDoorBd04
import Derived.Test.YtfglkgeeelapgaaGreatDoorBd02
import Derived.BigRegion
import Derived.StillTailTactics
set_option linter.unusedSimpArgs false
set_option linter.unusedVariables false
/- Chapter 8: the model's syndromes, IsWord, DataOf. -/
namespace G294
open Go Go.RowKit
theorem zeroL_yes {l : List UInt8} (h : ∀ i, i < l.length → l.getD i 0 = 0) : zeroL l = true := by simpa only [zeroL, decide_eq_true_eq] using h
theorem zeroL_no {l : List UInt8} {k : Nat} (hk : k < l.length) (h : l.getD k 0 ≠ 0) : zeroL l = false := by
  rw [Bool.eq_false_iff]; intro e
  simp only [zeroL, decide_eq_true_eq] at e
  exact h (e k hk)
theorem isWR_fit {w : List UInt8} {t : Int} (h : isWR w t = true) : fitW w t = true := by
  simp only [isWR, Bool.and_eq_true] at h; exact h.1
theorem fitW_m {w : List UInt8} {t : Int} (h : fitW w t = true) : ∃ m : Nat, t = m ∧ 1 ≤ m ∧ m ≤ 4 ∧ 2 * m + 1 ≤ w.length ∧ w.length ≤ 24 ∧ errT t = true := by
  simp only [fitW, errT, Bool.and_eq_true, decide_eq_true_eq] at h
  refine ⟨t.toNat, by omega, by omega, by omega, by omega, by omega, ?_⟩
  simp only [errT, decide_eq_true_eq]; omega
/-- a part of a slice from n on -/
theorem Seen.dropB {w : World} {A : Option Addr} {c : Nat} {l : List UInt8} (h : Seen w (.slice A l.length c) (bys l)) {n : Nat} (hn : n < l.length) : ∃ b off, A = some ⟨b, off, none⟩ ∧ Seen w (.slice (some ⟨b, off + n, none⟩) (l.length - n) (c - n)) (bys (l.drop n)) := by
  obtain ⟨A', c', hv, hlc, hcm, hx⟩ := h
  simp only [Value.slice.injEq, bys_length] at hv hlc hx
  obtain ⟨rfl, _, rfl⟩ := hv
  obtain ⟨b, off, rfl, hb, hc⟩ := hx (by omega)
  refine ⟨b, off, rfl, _, c - n, by simp, by simp; omega, by omega, fun _ => ⟨b, off + n, rfl, hb, fun i u hu => ?_⟩⟩
  rw [Nat.add_assoc]
  refine hc (n + i) u ?_
  rw [← hu]
  simp [bys, List.getElem?_drop]
end G294
namespace Go.Proofs.YtfglkgeeelapgaaGreatDoor
open Go.RowKit G294

set_option maxHeartbeats 1000000 in
theorem l8Fits_any (A : Option Addr) (l : List UInt8) (c : Nat) (t : Int) (w : World) (hl : l.length ≤ 9223372036854775807) : Calls Tryz.prog 46 #[.slice A l.length c, .int .i64 t] w fun e w' => e = .returned (.bool (fitW l t)) ∧ w = w' := by
  by_cases he : errT t = true
  · obtain ⟨m, rfl, h1, h4⟩ := errT_b he
    obtain ⟨n, hn⟩ : ∃ n, n = 2 * m := ⟨_, rfl⟩
    have hm2 : 2 * (m : Int) = (n : Int) := by omega
    have hn8 : n ≤ 8 := by omega
    have HE := Lib.hid he
    have HF : Hid (fitW l (m : Int) = inB l.length ((n : Int) + 1) 24) := by
      show _ = _
      rw [fitW_b h1 h4, inB, decide_eq_decide]; omega
    clear he hn
    rw [HF.out]
    generalize hll : l.length = q at *
    clear hll HF
    have HIN := Lib.hid (l1In_any (q : Int) ((n : Int) + 1) 24)
    generalize inB (q : Int) ((n : Int) + 1) 24 = z at *
    go_enter Tryz.func46, Tryz.ntmps46
    go_wp2_with fail
    refine (l8T_any _ _).mono ?_
    rintro e w' ⟨rfl, rfl⟩
    rw [HE.out]
    go_wp2_with fail
    refine (HIN.out _).mono ?_
    rintro e w' ⟨rfl, rfl⟩
    go_wp2_with fail
    go_ret
    exact ⟨rfl, rfl⟩
  · have HE : Hid (errT t = false) := by show _ = _; simpa using he
    have HF : Hid (fitW l t = false) := fitW_no HE.out
    clear he
    rw [HF.out]
    generalize hll : l.length = q at *
    clear hll
    go_enter Tryz.func46, Tryz.ntmps46
    go_wp2_with fail
    refine (l8T_any _ _).mono ?_
    rintro e w' ⟨rfl, rfl⟩
    rw [HE.out]
    go_wp2_with fail
    go_ret
    exact ⟨rfl, rfl⟩

set_option maxRecDepth 100000 in
set_option maxHeartbeats 4000000 in
theorem l8Syndromes_own (v : Value) (l : List UInt8) (m : Nat) (w : World) (hv : Seen w v (bys l)) (h1 : 1 ≤ m) (h4 : m ≤ 4) : Calls Tryz.prog 47 #[v, .int .i64 (m : Int)] w (RetBytes 5 w (synL l (2 * m))) := by
  obtain ⟨A, c, hvv⟩ := hv.len
  subst hvv
  obtain ⟨n, hn⟩ : ∃ n, n = 2 * m := ⟨_, rfl⟩
  have hm2 : 2 * (m : Int) = (n : Int) := by omega
  have hn8 : n ≤ 8 := by omega
  rw [← hn]
  clear hn
  have HV := Lib.hid hv
  clear hv
  have HML : Hid (∀ k (F : Nat → UInt8), (mkRow k F).length = k) := fun k F => by simp
  have HSY : Hid (∀ k, synL l k = mkRow k fun p => hor (powB 3 (p + 1)) l) := fun k => rfl
  generalize hll : (bys l).length = q at *
  clear hll
  go_enter Tryz.func47, Tryz.ntmps47
  go_wp2_with fail
  go_loopw [5, 6] (fun o i wr => ∃ k : Nat, k ≤ n ∧ i = .int .i64 ((k : Int) + 1) ∧ OwnBytes 5 wr w.heap.size wr.heap.size o (mkRow k fun p => hor (powB 3 (p + 1)) l) ∧ Below w.heap.size w wr)
    (fun _ i _ => n + 1 - (intOf i).toNat)
  case atStart => exact ⟨0, Nat.zero_le _, rfl, OwnBytes.nil _ _ _, Below.refl _ _⟩
  case round =>
    obtain ⟨k, hk, rfl, ho, hb⟩ := hrel
    by_cases hlt : k < n
    · have hki : (k : Int) + 1 ≤ (n : Int) := by omega
      have HP : Hid (Calls Tryz.prog 52 #[.int .u8 3, .int .i64 ((k : Int) + 1)] wr fun e w' => e = .returned (.int .u8 ((powB 3 (k + 1)).toNat : Int)) ∧ wr = w') := l1Pow3 (k + 1) wr (by omega)
      have HAT := Lib.hid (l7At_own _ l (powB 3 (k + 1)) wr (HV.out.below hb))
      have HO := Lib.hid ho
      have hsz := hb.size
      clear ho
      go_wp2_with fail
      refine HP.out.mono ?_
      rintro e w' ⟨rfl, rfl⟩
      go_wp2_with fail
      refine HAT.out.mono ?_
      rintro e w5 ⟨rfl, k5⟩
      have z5 := k5.size
      have ho5 := (HO.out.keep k5 (by omega)).1
      rw [HML.out] at ho5
      have hb5 := k5.base hb hsz (by omega)
      have HO5 := Lib.hid (ho5.alloc (.cells #[.int .u8 ((hor (powB 3 (k + 1)) l).toNat : Int)] 5))
      have HB5 : Hid (Below w.heap.size w (w5.alloc (.cells #[.int .u8 ((hor (powB 3 (k + 1)) l).toNat : Int)] 5))) := hb5.alloc (by omega) _
      clear ho5 HO
      go_wp2_with (at_builtin; refine wpList_append1 rfl _ _ _ rfl w.heap.size 5 _ _ Tryz.underlying22 infoByte rfl _ k _ rfl HO5.out w5.heap.size (.int .u8 ((hor (powB 3 (k + 1)) l).toNat : Int)) rfl ?c1 rfl ?c2 ?c3 ?c4 ?_)
      case c1 => simp
      case c2 => omega
      case c3 => omega
      case c4 => simp; omega
      intro v' w' hown' hg' _
      have hb' : Below w.heap.size w w' := below_append HB5.out HO5.out hg' (Nat.le_refl _) (by simp; omega)
      have hown2 : OwnBytes 5 w' w.heap.size w'.heap.size v' (mkRow (k + 1) fun p => hor (powB 3 (p + 1)) l) := by
        refine ⟨?_, Nat.le_refl _, fun g e => (hown'.lt g e).2⟩
        rw [HML.out, mkRow_succ, bys_append]; exact hown'
      clear hown' hg'
      go_wp2_with fail
      go_roundw
      case rel => exact ⟨k + 1, by omega, by go_num, hown2, hb'⟩
      case measure => simp [intOf]; omega
    · obtain rfl : k = n := by omega
      have hki : ¬ (k : Int) + 1 ≤ (k : Int) := by omega
      go_wp2_with fail
      go_ret
      exact ⟨_, rfl, by rw [HSY.out]; exact ho, TurnIn.of_below hb⟩

set_option maxHeartbeats 1000000 in
theorem l8Zero_any (v : Value) (l : List UInt8) (w : World) (hv : Seen w v (bys l)) : Calls Tryz.prog 48 #[v] w fun e w' => e = .returned (.bool (zeroL l)) ∧ w = w' := by
  obtain ⟨A, c, rfl, hlc, hcm, hx⟩ := hv
  rw [bys_length] at hlc hx
  simp only [bys_length]
  unfold maxLen at hcm
  generalize hnn : l.length = n at *
  have HN := Lib.hid hnn
  clear hnn
  go_enter Tryz.func48, Tryz.ntmps48
  go_wp2_with fail
  go_loop [7] (fun i => ∃ k : Nat, k ≤ n ∧ i = .int .i64 k ∧ Hid (∀ i, i < k → l.getD i 0 = 0)) (fun i => n - (intOf i).toNat)
  case atStart => exact ⟨0, Nat.zero_le _, rfl, fun i hi => by omega⟩
  case round =>
    obtain ⟨k, hk, rfl, HE⟩ := hrel
    by_cases hlt : k < n
    · obtain ⟨b, off, rfl, hbl, hcell⟩ := hx (by omega)
      have hkl : k < l.length := by rw [HN.out]; exact hlt
      have hcx : w.cell? ⟨b, off + k, none⟩ = some (.int .u8 ((l.getD k 0).toNat : Int)) := by
        have := hcell k _ (bys_get l k hkl)
        simpa [List.getD, hkl] using this
      have hki : (k : Int) < (n : Int) := by omega
      clear hcell hx
      by_cases hz : l.getD k 0 = 0
      · have hbb : (((l.getD k 0).toNat : Int) != 0) = false := by rw [hz]; rfl
        have HK : Hid (∀ i, i < k + 1 → l.getD i 0 = 0) := fun i hi => by
          rcases Nat.lt_or_ge i k with h | h
          · exact HE.out i h
          · rw [show i = k by omega]; exact hz
        clear hz
        generalize l.getD k 0 = x at *
        go_wp2_with fail
        go_round
        case rel => exact ⟨k + 1, by omega, by go_num, HK⟩
        case measure => simp [intOf]; omega
      · have hbb : (((l.getD k 0).toNat : Int) != 0) = true := by
          have : (l.getD k 0).toNat ≠ 0 := fun e => hz (UInt8.toNat_inj.1 e)
          rw [bne_iff_ne]; omega
        have HF : Hid (zeroL l = false) := zeroL_no hkl hz
        clear hz
        generalize l.getD k 0 = x at *
        go_wp2_with fail
        go_ret
        exact ⟨by rw [HF.out]; rfl, rfl⟩
    · obtain rfl : k = n := by omega
      have hki : ¬ (k : Int) < (k : Int) := by omega
      have HF : Hid (zeroL l = true) := zeroL_yes fun i hi => HE.out i (by rw [HN.out] at hi; exact hi)
      go_wp2_with fail
      go_ret
      exact ⟨by rw [HF.out]; rfl, rfl⟩

set_option maxHeartbeats 1000000 in
theorem sSyndromesOf_own (v : Value) (l : List UInt8) (t : Int) (w : World) (hv : Seen w v (bys l)) : Calls Tryz.prog 19 #[v, .int .i64 t] w (RetBytesOk 5 w (synR l t) (fitW l t)) := by
  have hv0 := hv
  obtain ⟨A, c, rfl, hlc, hcm, _⟩ := hv
  rw [bys_length] at hlc hv0
  simp only [bys_length]
  unfold maxLen at hcm
  have HV := Lib.hid hv0
  clear hv0
  have HFI := Lib.hid (fun W => l8Fits_any A l c t W (by omega))
  by_cases hf : fitW l t = true
  · obtain ⟨m, rfl, h1, h4, h5, h6, _⟩ := fitW_m hf
    have HR : Hid (synR l (m : Int) = synL l (2 * m)) := by show _ = _; rw [synR_yes hf]; simp
    have HF := Lib.hid hf
    have HS := Lib.hid (l8Syndromes_own _ l m w HV.out h1 h4)
    clear hf
    generalize hll : l.length = q at *
    clear hll
    go_enter Tryz.func19, Tryz.ntmps19
    go_wp2_with fail
    refine (HFI.out _).mono ?_
    rintro e w' ⟨rfl, rfl⟩
    rw [HF.out]
    go_wp2_with fail
    refine HS.out.mono ?_
    rintro e w1 ⟨v1, rfl, o1, k1⟩
    go_wp2_with fail
    go_ret2
    exact ⟨v1, by rw [HF.out]; rfl, by rw [HR.out]; exact o1, k1⟩
  · have HF : Hid (fitW l t = false) := by show _ = _; simpa using hf
    have HR : Hid (synR l t = []) := synR_no HF.out
    clear hf
    generalize hll : l.length = q at *
    clear hll
    go_enter Tryz.func19, Tryz.ntmps19
    go_wp2_with fail
    refine (HFI.out _).mono ?_
    rintro e w' ⟨rfl, rfl⟩
    rw [HF.out]
    go_wp2_with fail
    go_ret2
    exact ⟨.slice none 0 0, by rw [HF.out]; rfl, by rw [HR.out]; exact OwnBytes.nil _ _ _, TurnIn.refl _⟩

def RetBools (w : World) (a b : Bool) (e : Ending) (w' : World) : Prop := e = .returned (.tuple #[.bool a, .bool b]) ∧ TurnIn 0 0 w w'

end Go.Proofs.YtfglkgeeelapgaaGreatDoor

/- errors.Is over the two sentinels and *wrongBytes. -/
namespace Go.Proofs.YtfglkgeeelapgaaGreatDoor
open Go.RowKit Go.Extern.Stop Go.Stop Go.Extern

theorem isTypeOf (v : Value) (w : World) : (Extern.ReflectliteType.typeOf #[.iface 160 v]).run Tryz.prog w = .ok (.iface 128 (.agg #[.pointer (some ⟨4, 160, none⟩)])) w := by kernel_rfl

/-- the model's entry for Comparable -/
noncomputable def cmpF : Array Value → Sem Value := (Go.Extern.find Tryz.f146).getD (fun _ => pure (.bool false))

theorem cmpF_found : Go.Extern.find Tryz.f146 = some cmpF := by kernel_rfl

theorem isComparable (w : World) : (cmpF #[.agg #[.pointer (some ⟨4, 160, none⟩)]]).run Tryz.prog w = .ok (.bool true) w := by kernel_rfl

theorem isMethodComparable (v : Value) (w : World) : (Go.method 292 128 v "Comparable").run Tryz.prog w = .ok (146, v) w := by kernel_rfl

theorem isComp : (Tryz.prog.info? 160).map (·.comparable) = some true := by kernel_rfl

theorem isSize : (Tryz.prog.info? 181).map (·.size) = some 1 := by kernel_rfl

theorem noIsE (v : Value) (xT : TypeId) (w : World) : (Instr.typeAssert (.iface 160 v) xT 130 true).run Tryz.prog w = .ok (.tuple #[.nilIface, .bool false]) w := run_typeAssert_lacksB Tryz.underlying130 (by kernel_rfl) (by kernel_rfl) v xT w

theorem noUnwrapE (v : Value) (xT : TypeId) (w : World) : (Instr.typeAssert (.iface 160 v) xT 133 true).run Tryz.prog w = .ok (.tuple #[.nilIface, .bool false]) w := run_typeAssert_lacksB Tryz.underlying133 (by kernel_rfl) (by kernel_rfl) v xT w

theorem noUnwrapsE (v : Value) (xT : TypeId) (w : World) : (Instr.typeAssert (.iface 160 v) xT 135 true).run Tryz.prog w = .ok (.tuple #[.nilIface, .bool false]) w := run_typeAssert_lacksB Tryz.underlying135 (by kernel_rfl) (by kernel_rfl) v xT w

theorem noIsW (v : Value) (xT : TypeId) (w : World) : (Instr.typeAssert (.iface 58 v) xT 130 true).run Tryz.prog w = .ok (.tuple #[.nilIface, .bool false]) w := run_typeAssert_lacksB Tryz.underlying130 (by kernel_rfl) (by kernel_rfl) v xT w

theorem hasUnwrapW (v : Value) (xT : TypeId) (w : World) : (Instr.typeAssert (.iface 58 v) xT 133 true).run Tryz.prog w = .ok (.tuple #[.iface 58 v, .bool true]) w := run_typeAssert_hasB Tryz.underlying133 (by kernel_rfl) v xT w

theorem methodUnwrap (v : Value) (w : World) : (Go.method 292 58 v "Unwrap").run Tryz.prog w = .ok (137, v) w := by kernel_rfl

set_option maxHeartbeats 1000000 in
theorem unwrap_any (v : Value) (b : Addr) (w : World) (hg : w.cell? ⟨0, 0, none⟩ = some (.iface 160 (.pointer (some b)))) :
    Calls Tryz.prog 137 #[v] w fun e w' => e = .returned (.iface 160 (.pointer (some b))) ∧ w = w' := by
  go_enter Tryz.func137, Tryz.ntmps137
  go_wp2_with fail
  go_ret
  exact ⟨rfl, rfl⟩

set_option maxRecDepth 100000 in
set_option maxHeartbeats 4000000 in
/-- errors.Is of two different pointers to errors.errorString: neither has Is nor Unwrap -/
theorem is_other (a b : Addr) (ca cb : Array Value) (ta tb : TypeId) (w : World) (hne : a ≠ b) (ha : w.heap[a.block]? = some (.cells ca ta (0, 0))) (hb : w.heap[b.block]? = some (.cells cb tb (0, 0))) :
    Calls Tryz.prog 38 #[.iface 160 (.pointer (some a)), .iface 160 (.pointer (some b))] w fun e w' => e = .returned (.bool false) ∧ w = w' := by
  obtain ⟨i, hi, hcmp⟩ := Option.map_eq_some_iff.1 isComp
  obtain ⟨j, hj, hjs⟩ := Option.map_eq_some_iff.1 isSize
  have h8 := @run_callFunc_extern Tryz.prog 70 _ Extern.ReflectliteType.typeOf Tryz.func70 (by kernel_rfl) (by kernel_rfl) (by kernel_rfl) (by kernel_rfl)
  have h32 := @run_callFunc_extern Tryz.prog 146 _ cmpF Tryz.func146 (by kernel_rfl) (by kernel_rfl) (by kernel_rfl) cmpF_found
  have tT := isTypeOf
  have cT := isComparable
  have mR := isMethodComparable
  have nE := noIsE
  have uE := noUnwrapE
  have vE := noUnwrapsE
  have heq := run_eql_iface_ptr_other (P := Tryz.prog) w Tryz.underlying52 Tryz.underlying160 hi hcmp hj (by rw [hjs]; decide) hne ha hb
  go_enter Tryz.func38, Tryz.ntmps38
  go_wp2
  refine wp_loop_rounds 1 ?_
  rw [rounds_succ]
  go_wp2
  go_ret
  exact ⟨rfl, rfl⟩

set_option maxRecDepth 100000 in
set_option maxHeartbeats 4000000 in
/-- errors.Is of a *wrongBytes: one Unwrap, then equal -/
theorem is_wrong (p b : Addr) (w : World) (hg : w.cell? ⟨0, 0, none⟩ = some (.iface 160 (.pointer (some b)))) :
    Calls Tryz.prog 38 #[.iface 58 (.pointer (some p)), .iface 160 (.pointer (some b))] w fun e w' => e = .returned (.bool true) ∧ w = w' := by
  obtain ⟨i, hi, hcmp⟩ := Option.map_eq_some_iff.1 isComp
  obtain ⟨j, hj, hjs⟩ := Option.map_eq_some_iff.1 isSize
  have h8 := @run_callFunc_extern Tryz.prog 70 _ Extern.ReflectliteType.typeOf Tryz.func70 (by kernel_rfl) (by kernel_rfl) (by kernel_rfl) (by kernel_rfl)
  have h32 := @run_callFunc_extern Tryz.prog 146 _ cmpF Tryz.func146 (by kernel_rfl) (by kernel_rfl) (by kernel_rfl) cmpF_found
  have tT := isTypeOf
  have cT := isComparable
  have mR := isMethodComparable
  have nW := noIsW
  have uW := hasUnwrapW
  have mU := methodUnwrap
  have heq := run_eql_iface_ptr_same (P := Tryz.prog) w b Tryz.underlying52 Tryz.underlying160 hi hcmp hj
  have hty := run_eql_iface_types (P := Tryz.prog) 58 160 (.pointer (some p)) (.pointer (some b)) Tryz.underlying52 (by decide) w
  go_enter Tryz.func38, Tryz.ntmps38
  go_wp2
  refine wp_loop_rounds 2 ?_
  rw [rounds_succ]
  go_wp2
  rw [rounds_succ]
  go_wp2
  go_ret
  exact ⟨rfl, rfl⟩

end Go.Proofs.YtfglkgeeelapgaaGreatDoor

/- Chapter 8: faultOf, DataOf and IsWord: the program's. -/
namespace Go.Proofs.YtfglkgeeelapgaaGreatDoor
open Go.RowKit G294

set_option maxHeartbeats 400000 in
theorem fault1_any (x : UInt8) (w : World) : Calls Tryz.prog 69 #[.int .u8 (x.toNat : Int)] w fun e w' => e = .returned (.bool ((x.toNat : Int) != 0)) ∧ w = w' := by
  obtain ⟨b, hb⟩ : ∃ b, ((x.toNat : Int) != 0) = b := ⟨_, rfl⟩
  rw [hb]
  go_enter Tryz.func69, Tryz.ntmps69
  go_wp2_with fail
  go_ret
  exact ⟨rfl, rfl⟩

set_option maxHeartbeats 1000000 in
theorem indexFunc_any (v : Value) (l : List UInt8) (w : World) (hv : Seen w v (bys l)) : Calls Tryz.prog 95 #[v, .func (.func 69) #[] #[]] w fun e w' => (∃ r : Int, e = .returned (.int .i64 r) ∧ decide (0 ≤ r) = !zeroL l) ∧ w = w' := by
  obtain ⟨A, c, rfl, hlc, hcm, hx⟩ := hv
  rw [bys_length] at hlc hx
  simp only [bys_length]
  unfold maxLen at hcm
  generalize hnn : l.length = n at *
  have HN := Lib.hid hnn
  clear hnn
  have eg := enters_of Tryz.func69 (by kernel_rfl) rfl
  go_enter Tryz.func95, Tryz.ntmps95
  go_wp2_with fail
  go_loop [8] (fun i => ∃ k : Nat, k ≤ n ∧ i = .int .i64 k ∧ Hid (∀ i, i < k → l.getD i 0 = 0)) (fun i => n - (intOf i).toNat)
  case atStart => exact ⟨0, Nat.zero_le _, rfl, fun i hi => by omega⟩
  case round =>
    obtain ⟨k, hk, rfl, HE⟩ := hrel
    by_cases hlt : k < n
    · obtain ⟨b, off, rfl, hbl, hcell⟩ := hx (by omega)
      have hkl : k < l.length := by rw [HN.out]; exact hlt
      have hcx : w.cell? ⟨b, off + k, none⟩ = some (.int .u8 ((l.getD k 0).toNat : Int)) := by
        have := hcell k _ (bys_get l k hkl)
        simpa [List.getD, hkl] using this
      have hki : (k : Int) < (n : Int) := by omega
      clear hcell hx
      have HCF := Lib.hid (fault1_any (l.getD k 0) w)
      by_cases hz : l.getD k 0 = 0
      · have hbb : (((l.getD k 0).toNat : Int) != 0) = false := by rw [hz]; rfl
        have HK : Hid (∀ i, i < k + 1 → l.getD i 0 = 0) := fun i hi => by
          rcases Nat.lt_or_ge i k with h | h
          · exact HE.out i h
          · rw [show i = k by omega]; exact hz
        rw [hbb] at HCF
        clear hz hbb
        generalize l.getD k 0 = x at *
        go_wp2_with fail
        refine HCF.out.mono ?_
        rintro e w' ⟨rfl, rfl⟩
        go_wp2_with fail
        go_round
        case rel => exact ⟨k + 1, by omega, by go_num, HK⟩
        case measure => simp [intOf]; omega
      · have hbb : (((l.getD k 0).toNat : Int) != 0) = true := by
          have : (l.getD k 0).toNat ≠ 0 := fun e => hz (UInt8.toNat_inj.1 e)
          rw [bne_iff_ne]; omega
        have HF : Hid (zeroL l = false) := zeroL_no hkl hz
        rw [hbb] at HCF
        clear hz hbb
        generalize l.getD k 0 = x at *
        go_wp2_with fail
        refine HCF.out.mono ?_
        rintro e w' ⟨rfl, rfl⟩
        go_wp2_with fail
        go_ret
        exact ⟨⟨_, rfl, by rw [HF.out]; simp⟩, rfl⟩
    · obtain rfl : k = n := by omega
      have hki : ¬ (k : Int) < (k : Int) := by omega
      have HF : Hid (zeroL l = true) := zeroL_yes fun i hi => HE.out i (by rw [HN.out] at hi; exact hi)
      go_wp2_with fail
      go_ret
      exact ⟨⟨_, rfl, by rw [HF.out]; rfl⟩, rfl⟩

set_option maxHeartbeats 1000000 in
theorem containsFunc_any (v : Value) (l : List UInt8) (w : World) (hv : Seen w v (bys l)) : Calls Tryz.prog 68 #[v, .func (.func 69) #[] #[]] w fun e w' => e = .returned (.bool (!zeroL l)) ∧ w = w' := by
  have HC := Lib.hid (indexFunc_any v l w hv)
  obtain ⟨A, c, rfl, _⟩ := hv
  rw [bys_length] at HC ⊢
  generalize hll : l.length = q at *
  generalize zeroL l = z at *
  clear hll
  go_enter Tryz.func68, Tryz.ntmps68
  go_wp2_with fail
  refine HC.out.mono ?_
  rintro e w' ⟨⟨r, rfl, hr⟩, rfl⟩
  go_wp2_with fail
  go_ret
  exact ⟨rfl, rfl⟩

/-- what faultOf hands back: the sentinel at a0, nil, or a new *wrongBytes that holds the syndromes -/
def RetFault (w : World) (l : List UInt8) (t : Int) (a0 : Addr) (e : Ending) (w' : World) : Prop :=
  TurnIn 0 0 w w' ∧ ((fitW l t = false ∧ e = .returned (.iface 160 (.pointer (some a0)))) ∨ (fitW l t = true ∧ isWR l t = true ∧ e = .returned .nilIface) ∨
    (fitW l t = true ∧ isWR l t = false ∧ ∃ B sv, e = .returned (.iface 58 (.pointer (some ⟨B, 0, none⟩))) ∧ w.heap.size ≤ B ∧ B < w'.heap.size ∧ w'.cell? ⟨B, 0, none⟩ = some sv ∧ OwnBytes 5 w' w.heap.size B sv (synL l (2 * t.toNat))))

set_option maxRecDepth 100000 in
set_option maxHeartbeats 2000000 in
theorem faultOf_own (v : Value) (l : List UInt8) (t : Int) (a0 : Addr) (w : World) (hv : Seen w v (bys l)) (ht : Tab w) (h0 : 3 < w.heap.size) (s0 : w.cell? ⟨1, 0, none⟩ = some (.iface 160 (.pointer (some a0)))) (l0 : 1 < w.heap.size) :
    Calls Tryz.prog 37 #[v, .int .i64 t] w (RetFault w l t a0) := by
  have HS := Lib.hid (syndromesOf_own v l t w hv ht h0)
  obtain ⟨A, c, rfl, _⟩ := hv
  rw [bys_length] at HS ⊢
  generalize hll : l.length = q at *
  clear hll
  by_cases hf : fitW l t = true
  · have HR : Hid (synR l t = synL l (2 * t.toNat)) := synR_yes hf
    have HF := Lib.hid hf
    have HI : Hid (isWR l t = zeroL (synL l (2 * t.toNat))) := by show _ = _; simp [isWR, hf]
    clear hf
    go_enter Tryz.func37, Tryz.ntmps37
    go_wp2_with fail
    refine HS.out.mono ?_
    rintro e w1 ⟨v1, rfl, o1, k1⟩
    rw [HF.out]
    rw [HR.out] at o1
    obtain ⟨Y, ny, cy, hyy⟩ := own_isSlice o1.1
    have HC := Lib.hid (containsFunc_any v1 _ w1 o1.seen)
    subst hyy
    have HO := Lib.hid o1
    have z1 := k1.size
    clear o1
    by_cases hz : zeroL (synL l (2 * t.toNat)) = true
    · rw [hz] at HC
      have HZ : Hid (isWR l t = true) := HI.out.trans hz
      clear hz
      go_wp2_with fail
      refine HC.out.mono ?_
      rintro e w' ⟨rfl, rfl⟩
      go_wp2_with fail
      go_ret
      exact ⟨k1, .inr (.inl ⟨HF.out, HZ.out, rfl⟩)⟩
    · have hz' : zeroL (synL l (2 * t.toNat)) = false := by simpa using hz
      rw [hz'] at HC
      have HZ : Hid (isWR l t = false) := HI.out.trans hz'
      have ta := turn_alloc w1 (.cells #[.slice Y ny cy] 85)
      have HTA := Lib.hid (turn_trans k1 ta (by omega))
      have HO2 := Lib.hid (HO.out.keep ta (by omega))
      clear hz hz' ta
      go_wp2_with fail
      refine HC.out.mono ?_
      rintro e w' ⟨rfl, rfl⟩
      go_wp2_with fail
      go_ret
      exact ⟨HTA.out, .inr (.inr ⟨HF.out, HZ.out, w1.heap.size, .slice Y ny cy, rfl, z1, by simp, by simp, HO2.out⟩)⟩
  · have HF : Hid (fitW l t = false) := by show _ = _; simpa using hf
    clear hf
    go_enter Tryz.func37, Tryz.ntmps37
    go_wp2_with fail
    refine HS.out.mono ?_
    rintro e w1 ⟨v1, rfl, o1, k1⟩
    rw [HF.out]
    obtain ⟨Y, ny, cy, hyy⟩ := own_isSlice o1.1
    subst hyy
    clear o1
    have s1 := (k1.to_below.cell (p := ⟨1, 0, none⟩) l0).trans s0
    go_wp2_with fail
    go_ret
    exact ⟨k1, .inl ⟨HF.out, rfl⟩⟩

set_option maxRecDepth 100000 in
set_option maxHeartbeats 2000000 in
theorem dataOf_own (v : Value) (l : List UInt8) (t : Int) (a0 : Addr) (w : World) (hv : Seen w v (bys l)) (ht : Tab w) (h0 : 3 < w.heap.size) (s0 : w.cell? ⟨1, 0, none⟩ = some (.iface 160 (.pointer (some a0)))) (l0 : 1 < w.heap.size) :
    Calls Tryz.prog 11 #[v, .int .i64 t] w (RetBytesOk 5 w (dataR l t) (isWR l t)) := by
  have HFA := Lib.hid (faultOf_own v l t a0 w hv ht h0 s0 l0)
  have hv0 := hv
  obtain ⟨A, c, rfl, hlc, hcm, _⟩ := hv
  rw [bys_length] at HFA hv0 hlc ⊢
  unfold maxLen at hcm
  have HV := Lib.hid hv0
  clear hv0
  by_cases hz : isWR l t = true
  · have hf := isWR_fit hz
    obtain ⟨m, rfl, h1, h4, h5, h6, _⟩ := fitW_m hf
    obtain ⟨n, hn⟩ : ∃ n, n = 2 * m := ⟨_, rfl⟩
    have hn8 : n ≤ 8 := by omega
    have hnl : n < l.length := by omega
    have HR : Hid (dataR l (m : Int) = l.drop n) := by show _ = _; unfold dataR; rw [if_pos hz, hn]; simp
    have HZ := Lib.hid hz
    have HF := Lib.hid hf
    have HCC : Hid (∀ W : World, Calls Tryz.prog 31 #[.int .i64 (m : Int)] W fun e w' => e = .returned (.int .i64 (n : Int)) ∧ W = w') := fun W => by rw [hn]; exact checkCount_any m W (by omega)
    obtain ⟨b, off, rfl, hsd⟩ := HV.out.dropB (n := n) hnl
    have HD := Lib.hid hsd
    have HDL : Hid ((l.drop n).length = l.length - n) := by show _ = _; simp
    clear hz hf hn hsd
    generalize hll : l.length = q at *
    clear hll
    obtain ⟨d, hd⟩ : ∃ d, d = q - n := ⟨_, rfl⟩
    have hd1 : 1 ≤ d := by omega
    have hd24 : d ≤ 24 := by omega
    have hdq : q - n = d := hd.symm
    have hni : (n : Int) ≤ (q : Int) := by omega
    have hni2 : (q : Int) ≤ (c : Int) := by omega
    rw [← hd] at HD HDL
    clear hd
    go_enter Tryz.func11, Tryz.ntmps11
    go_wp2_with fail
    refine HFA.out.mono ?_
    rintro e w1 ⟨k1, ⟨hff, _⟩ | ⟨_, _, rfl⟩ | ⟨_, hzz, _⟩⟩
    · rw [HF.out] at hff; cases hff
    · have z1 := k1.size
      have HD1 := Lib.hid (HD.out.touch k1)
      go_wp2_with fail
      refine (HCC.out _).mono ?_
      rintro e w' ⟨rfl, rfl⟩
      go_wp2_with fail
      refine (cloneB_own _ (l.drop n) _ HD1.out (by rw [HDL.out]; exact hd1) (by rw [HDL.out]; omega)).mono ?_
      rintro e w2 ⟨v2, rfl, o2, k2⟩
      have kk := turn_trans k1 k2 (by omega)
      have o2' := o2.wider (lo' := w.heap.size) (hi' := w2.heap.size) z1 (Nat.le_refl _) (Nat.le_refl _)
      go_wp2_with fail
      go_ret2
      exact ⟨v2, by rw [HZ.out]; rfl, by rw [HR.out]; exact o2', kk⟩
    · rw [HZ.out] at hzz; cases hzz
  · have HZ : Hid (isWR l t = false) := by show _ = _; simpa using hz
    have HR : Hid (dataR l t = []) := if_neg hz
    clear hz
    generalize hll : l.length = q at *
    clear hll
    go_enter Tryz.func11, Tryz.ntmps11
    go_wp2_with fail
    refine HFA.out.mono ?_
    rintro e w1 ⟨k1, ⟨_, rfl⟩ | ⟨_, hzz, _⟩ | ⟨_, _, B, sv, rfl, _, _, _, _⟩⟩
    · go_wp2_with fail
      go_ret2
      exact ⟨.slice none 0 0, by rw [HZ.out]; rfl, by rw [HR.out]; exact ⟨World.ownsRow_nil _ _ _ _, Nat.le_refl _, fun g h => by simp [Value.ownBlock] at h⟩, k1⟩
    · rw [HZ.out] at hzz; cases hzz
    · go_wp2_with fail
      go_ret2
      exact ⟨.slice none 0 0, by rw [HZ.out]; rfl, by rw [HR.out]; exact ⟨World.ownsRow_nil _ _ _ _, Nat.le_refl _, fun g h => by simp [Value.ownBlock] at h⟩, k1⟩

/-- the two sentinels -/
structure Sen (w : World) (a0 a1 : Addr) : Prop where
  s0 : w.cell? ⟨1, 0, none⟩ = some (.iface 160 (.pointer (some a0)))
  s1 : w.cell? ⟨0, 0, none⟩ = some (.iface 160 (.pointer (some a1)))
  l0 : 1 < w.heap.size
  l1 : 0 < w.heap.size
  ne : a0 ≠ a1
  r0 : ∃ c t, w.heap[a0.block]? = some (.cells c t (0, 0))
  r1 : ∃ c t, w.heap[a1.block]? = some (.cells c t (0, 0))

theorem Sen.below {w w' : World} {a0 a1 : Addr} (h : Sen w a0 a1) (hb : Below w.heap.size w w') : Sen w' a0 a1 := by
  obtain ⟨c0, t0, h0⟩ := h.r0
  obtain ⟨c1, t1, h1⟩ := h.r1
  have hs := hb.size
  exact ⟨(hb.cell (p := ⟨1, 0, none⟩) h.l0).trans h.s0, (hb.cell (p := ⟨0, 0, none⟩) h.l1).trans h.s1, Nat.lt_of_lt_of_le h.l0 hs, Nat.lt_of_lt_of_le h.l1 hs, h.ne,
    ⟨c0, t0, (hb.block _ (Array.getElem?_eq_some_iff.1 h0).1).trans h0⟩, ⟨c1, t1, (hb.block _ (Array.getElem?_eq_some_iff.1 h1).1).trans h1⟩⟩

set_option maxRecDepth 100000 in
set_option maxHeartbeats 2000000 in
theorem isWord_own (v : Value) (l : List UInt8) (t : Int) (a0 a1 : Addr) (w : World) (hv : Seen w v (bys l)) (ht : Tab w) (h0 : 3 < w.heap.size) (hs : Sen w a0 a1) :
    Calls Tryz.prog 10 #[v, .int .i64 t] w (RetBools w (isWR l t) (fitW l t)) := by
  have HFA := Lib.hid (faultOf_own v l t a0 w hv ht h0 hs.s0 hs.l0)
  have HSE := Lib.hid hs
  obtain ⟨A, c, rfl, _⟩ := hv
  rw [bys_length] at HFA ⊢
  clear hs
  generalize hll : l.length = q at *
  clear hll
  go_enter Tryz.func10, Tryz.ntmps10
  go_wp2_with fail
  refine HFA.out.mono ?_
  rintro e w1 ⟨k1, ⟨hff, rfl⟩ | ⟨hff, hzz, rfl⟩ | ⟨hff, hzz, B, sv, rfl, _, _, _, _⟩⟩
  · have hse := HSE.out.below k1.to_below
    have hs1 := hse.s1
    obtain ⟨c0, t0, hr0⟩ := hse.r0
    obtain ⟨c1, t1, hr1⟩ := hse.r1
    have HCI := Lib.hid (fun n => is_other a0 a1 c0 c1 t0 t1 (w1.drewN n) hse.ne hr0 hr1)
    have HZ : Hid (isWR l t = false) := by show _ = _; simp [isWR, hff]
    have HF := Lib.hid hff
    clear hff hse hr0 hr1
    go_wp2_with fail
    go_quiet ((go_at_call 38; exact quietly (HCI.out _)))
    go_wp2_with fail
    go_ret2
    exact ⟨by rw [HZ.out, HF.out]; rfl, turn_trans k1 ⟨rfl, rfl, rfl, Nat.le_refl _, fun _ _ _ => rfl⟩ (by omega : (0 ≤ 0 ∧ 0 ≤ 0) ∨ w.heap.size ≤ 0 ∨ 0 = 0)⟩
  · have HZ := Lib.hid hzz
    have HF := Lib.hid hff
    clear hff hzz
    go_wp2_with fail
    go_quiet (fail)
    go_wp2_with fail
    go_ret2
    exact ⟨by rw [HZ.out, HF.out]; rfl, turn_trans k1 ⟨rfl, rfl, rfl, Nat.le_refl _, fun _ _ _ => rfl⟩ (by omega : (0 ≤ 0 ∧ 0 ≤ 0) ∨ w.heap.size ≤ 0 ∨ 0 = 0)⟩
  · have hse := HSE.out.below k1.to_below
    have hs1 := hse.s1
    have HCI := Lib.hid (fun n => is_wrong ⟨B, 0, none⟩ a1 (w1.drewN n) hs1)
    have HZ := Lib.hid hzz
    have HF := Lib.hid hff
    clear hff hzz hse
    go_wp2_with fail
    go_quiet ((go_at_call 38; exact quietly (HCI.out _)))
    go_wp2_with fail
    go_ret2
    exact ⟨by rw [HZ.out, HF.out]; rfl, turn_trans k1 ⟨rfl, rfl, rfl, Nat.le_refl _, fun _ _ _ => rfl⟩ (by omega : (0 ≤ 0 ∧ 0 ≤ 0) ∨ w.heap.size ≤ 0 ∨ 0 = 0)⟩

end Go.Proofs.YtfglkgeeelapgaaGreatDoor

/- The methods of field bytes. -/
namespace Go.Proofs.YtfglkgeeelapgaaGreatDoor
open Go.RowKit G294

set_option maxHeartbeats 400000 in
theorem fbTimes_any (a b : UInt8) (w : World) (ht : Tab w) :
    Calls Tryz.prog 143 #[.int .u8 (a.toNat : Int), .int .u8 (b.toNat : Int)] w fun e w' => e = .returned (.int .u8 ((gmul a b).toNat : Int)) ∧ w = w' := by
  go_enter Tryz.func143, Tryz.ntmps143
  go_wp2_with fail
  refine (times_u8 a b _ ht).mono ?_
  rintro e w' ⟨rfl, rfl⟩
  go_wp2_with fail
  go_ret
  exact ⟨rfl, rfl⟩

set_option maxHeartbeats 400000 in
theorem fbPlus_any (a b : UInt8) (w : World) :
    Calls Tryz.prog 142 #[.int .u8 (a.toNat : Int), .int .u8 (b.toNat : Int)] w fun e w' => e = .returned (.int .u8 ((a ^^^ b).toNat : Int)) ∧ w = w' := by
  have HX := Lib.hid (xor_u8 a b)
  go_enter Tryz.func142, Tryz.ntmps142
  go_wp2_with fail
  go_ret
  exact ⟨by rw [← HX.out]; rfl, rfl⟩

set_option maxHeartbeats 400000 in
theorem fbInverse_any (a : UInt8) (w : World) (ht : Tab w) :
    Calls Tryz.prog 141 #[.int .u8 (a.toNat : Int)] w fun e w' => e = .returned (.int .u8 ((ginv a).toNat : Int)) ∧ w = w' := by
  have HI := Lib.hid (ginv_toNat a)
  go_enter Tryz.func141, Tryz.ntmps141
  go_wp2_with fail
  refine (inverse_any a.toNat a.toNat_lt _ ht).mono ?_
  rintro e w' ⟨rfl, rfl⟩
  go_wp2_with fail
  go_ret
  exact ⟨by rw [HI.out]; rfl, rfl⟩

theorem methTimes (x : Int) (w : World) : (method 292 115 (.int .u8 x) "loop.example/g00294/impl.times").run Tryz.prog w = .ok (143, .int .u8 x) w := by kernel_rfl

theorem methPlus (x : Int) (w : World) : (method 292 115 (.int .u8 x) "loop.example/g00294/impl.plus").run Tryz.prog w = .ok (142, .int .u8 x) w := by kernel_rfl

theorem methInverse (x : Int) (w : World) : (method 292 115 (.int .u8 x) "loop.example/g00294/impl.inverse").run Tryz.prog w = .ok (141, .int .u8 x) w := by kernel_rfl
end Go.Proofs.YtfglkgeeelapgaaGreatDoor

/- Elimination in place: pivotBelow, scaleRow, clearColumn, eliminate. -/
namespace Go.Proofs.YtfglkgeeelapgaaGreatDoor
open Go.RowKit G294

def pivV (o : Option Nat) : Value := match o with
  | none => .tuple #[.int .i64 0, .bool false]
  | some k => .tuple #[.int .i64 k, .bool true]

set_option maxRecDepth 100000 in
set_option maxHeartbeats 1000000 in
theorem pivotBelow_any (r c a j : Nat) (F : Ents) (v : Value) (w : World) (hs : SeenM w v (mkM r c F)) (hr1 : 1 ≤ r) (hr : r ≤ 1000) (hc : c ≤ 1000) (ha : a ≤ r) (hj : j < c) :
    Calls Tryz.prog 114 #[v, .int .i64 a, .int .i64 j] w fun e w' => e = .returned (pivV (piv F r a j)) ∧ w = w' := by
  have HS := Lib.hid hs
  obtain ⟨A, cp, hvv, _, _⟩ := hs.len
  rw [mkM_length] at hvv
  subst hvv
  clear hs
  go_enter Tryz.func114, Tryz.ntmps114
  go_wp2_with fail
  go_loop [9] (fun i => ∃ k : Nat, a ≤ k ∧ k ≤ r ∧ i = .int .i64 k ∧ Hid (∀ i, a ≤ i → i < k → F i j = 0)) (fun i => r - (intOf i).toNat)
  case atStart => exact ⟨a, Nat.le_refl _, ha, rfl, fun i h1 h2 => by omega⟩
  case round =>
    obtain ⟨k, hak, hk, rfl, HK⟩ := hrel
    by_cases hlt : k < r
    · have hki : (k : Int) < (r : Int) := by omega
      have hji : (j : Int) < (c : Int) := by omega
      obtain ⟨bb, off, cp5, b', off', c', e6, hl5, h5, h6, h7, hl6, h8⟩ := HS.out.cellF k j hlt hj
      simp only [Value.slice.injEq] at e6
      obtain ⟨rfl, z9, rfl⟩ := e6
      clear z9
      unfold maxLen at hl5 hl6
      by_cases h0 : F k j = 0
      · have hb : (((F k j).toNat : Int) != 0) = false := by rw [h0]; rfl
        have HK2 : Hid (∀ i, a ≤ i → i < k + 1 → F i j = 0) := fun i h1 h2 => by
          by_cases e : i = k
          · rw [e]; exact h0
          · exact HK.out i h1 (by omega)
        clear h0
        go_wp2_with fail
        go_round
        case rel => exact ⟨k + 1, by omega, by omega, by go_num, HK2⟩
        case measure => simp [intOf]; omega
      · have hb : (((F k j).toNat : Int) != 0) = true := by
          rw [bne_iff_ne]; intro e
          exact h0 (u8_ext (by simpa using e))
        have HP := Lib.hid (piv_some hak hlt h0 HK.out)
        clear h0
        go_wp2_with fail
        go_ret2
        exact ⟨by rw [HP.out]; rfl, rfl⟩
    · obtain rfl : k = r := by omega
      have hki : ¬ (k : Int) < (k : Int) := by omega
      have HP := Lib.hid (piv_none HK.out)
      go_wp2_with fail
      go_ret2
      exact ⟨by rw [HP.out]; rfl, rfl⟩

/-- row k turns in place -/
def RowTurn (E EE : TypeId) (w : World) (lo hi : Nat) (v : Value) (L : Mat) (vs : List Value) (e : Ending) (w' : World) : Prop := e = .returned (.tuple #[]) ∧ OwnM E EE w' lo hi v L vs ∧ TurnIn lo hi w w'

set_option maxRecDepth 100000 in
set_option maxHeartbeats 1000000 in
theorem scaleRow_any (r c k lo hi : Nat) (F : Ents) (s : UInt8) (v u : Value) (vs : List Value) (w : World) (hM : OwnM 115 147 w lo hi v (mkM r c F) vs) (hk : k < r) (hu : vs[k]? = some u) (hc1 : 1 ≤ c) (hc : c ≤ 1000) (ht : Tab w) (h0 : 3 < lo) :
    Calls Tryz.prog 115 #[u, .int .u8 (s.toNat : Int)] w (RowTurn 115 147 w lo hi v (mkM r c (scF k s F)) vs) := by
  obtain ⟨bb, cp, hu2, e1, e2, e3, e4, e5, hfz, hcell⟩ := hM.rowF k hk hc1
  obtain rfl : u = .slice (some ⟨bb, 0, none⟩) c cp := Option.some.inj (hu.symm.trans hu2)
  have HU := Lib.hid hu
  have HM0 := Lib.hid (hM.congr (L' := mkM r c fun i j => if i = k ∧ j < 0 then gmul s (F k j) else F i j) (mkM_congr fun i j _ _ => by simp))
  have HT := Lib.hid ht
  have hm1 := methTimes
  unfold maxLen at e5
  clear hM hu hu2 hfz hcell ht
  go_enter Tryz.func115, Tryz.ntmps115
  go_wp2_with fail
  go_loopw [7] (fun i wr => ∃ m : Nat, m ≤ c ∧ i = .int .i64 m ∧ Hid (OwnM 115 147 wr lo hi v (mkM r c fun i j => if i = k ∧ j < m then gmul s (F k j) else F i j) vs) ∧ Hid (TurnIn lo hi w wr)) (fun i _ => c - (intOf i).toNat)
  case atStart => exact ⟨0, Nat.zero_le _, rfl, HM0, Lib.hid ⟨rfl, rfl, rfl, Nat.le_refl _, fun _ _ _ => rfl⟩⟩
  case round =>
    obtain ⟨m, hm, rfl, HM, HK⟩ := hrel
    by_cases hlm : m < c
    · have hmi : (m : Int) < (c : Int) := by omega
      obtain ⟨bb', cp', hu2, f1, f2, f3, f4, f5, hfz, hcell⟩ := HM.out.rowF k hk hc1
      obtain ⟨rfl, rfl⟩ : bb = bb' ∧ cp = cp' := by simpa using HU.out.symm.trans hu2
      have hcx := hcell m hlm
      have e : (if k = k ∧ m < m then gmul s (F k m) else F k m) = F k m := if_neg (by omega)
      rw [e] at hcx
      have hfr := hfz m
      have htr : Tab wr := fun i hi => (World.cell?_of_block (HK.out.block 3 (by have := HM0.out.top; omega) (by omega))).trans (HT.out i hi)
      have HTR := Lib.hid htr
      have HM2 := Lib.hid ((HM.out.storeF (j := m) (x := gmul s (F k m)) hk HU.out).congr (L' := mkM r c fun i j => if i = k ∧ j < m + 1 then gmul s (F k j) else F i j) (mkM_congr fun i j _ _ => by
        by_cases a1 : i = k
        · subst a1
          by_cases a2 : j = m
          · subst a2; simp
          · by_cases a3 : j < m
            · simp [a2, a3]; omega
            · simp [a2, a3]; omega
        · simp [a1]))
      have HK2 := Lib.hid (turn_trans HK.out (turn_setCell wr bb m (.int .u8 ((gmul s (F k m)).toNat : Int))) (by omega))
      have HC := Lib.hid (gmul_comm (F k m) s)
      clear hcell hfz hu2 f3 f5 htr e
      go_wp2_with fail
      refine (fbTimes_any (F k m) s _ HTR.out).mono ?_
      rintro e w' ⟨rfl, rfl⟩
      rw [HC.out]
      go_wp2_with fail
      go_roundw
      case rel => exact ⟨m + 1, by omega, by go_num, HM2, HK2⟩
      case measure => simp [intOf]; omega
    · obtain rfl : m = c := by omega
      have hmi : ¬ (m : Int) < (m : Int) := by omega
      go_wp2_with fail
      go_end0
      exact ⟨rfl, HM.out.congr (mkM_congr fun i j _ hj => by
        unfold scF
        by_cases a1 : i = k
        · subst a1; simp [hj]
        · simp [a1]), HK.out⟩

theorem stilly {P : Program} {f : FuncId} {args : Array Value} {w : World} {v : Value} (h : Calls P f args w fun e w' => e = .returned v ∧ w = w') :
    Calls P f args w fun e w' => e = .returned v ∧ w' = w := h.mono fun _ _ ⟨he, hw⟩ => ⟨he, hw.symm⟩

/-- column j cleared in the rows ahead of k and in the first m columns of row k -/
def clK (a j k m : Nat) (F : Ents) : Ents := fun i jj => if i < k ∨ (i = k ∧ jj < m) then clF a (fun i => F i j) F i jj else F i jj

set_option maxRecDepth 100000 in
set_option maxHeartbeats 2000000 in
theorem clearColumn_any (r c a j lo hi : Nat) (F : Ents) (v : Value) (vs : List Value) (w : World) (hM : OwnM 115 147 w lo hi v (mkM r c F) vs) (ha : a < r) (hj : j < c) (hr : r ≤ 1000) (hc : c ≤ 1000) (ht : Tab w) (h0 : 3 < lo) :
    Calls Tryz.prog 116 #[v, .int .i64 a, .int .i64 j] w (RowTurn 115 147 w lo hi v (mkM r c (clF a (fun i => F i j) F)) vs) := by
  obtain ⟨g, cp, rfl, hg1, hg2, hg3, hg4⟩ := hM.sliceF (by omega)
  have HM0 := Lib.hid (hM.congr (L' := mkM r c (clK a j 0 0 F)) (mkM_congr fun i jj _ _ => by simp [clK]))
  have HT := Lib.hid ht
  have hm1 := methTimes
  have hm2 := methPlus
  unfold maxLen at hg4
  clear hM ht
  go_enter Tryz.func116, Tryz.ntmps116
  go_wp2_with fail
  go_loopw [11] (fun i wr => ∃ k : Nat, k ≤ r ∧ i = .int .i64 k ∧ Hid (OwnM 115 147 wr lo hi (.slice (some ⟨g, 0, none⟩) r cp) (mkM r c (clK a j k 0 F)) vs) ∧ Hid (TurnIn lo hi w wr)) (fun i _ => r - (intOf i).toNat)
  case atStart => exact ⟨0, Nat.zero_le _, rfl, HM0, Lib.hid ⟨rfl, rfl, rfl, Nat.le_refl _, fun _ _ _ => rfl⟩⟩
  case round =>
    obtain ⟨k, hk, rfl, HM, HK⟩ := hrel
    by_cases hlt : k < r
    · have hki : (k : Int) < (r : Int) := by omega
      by_cases hka : k = a
      · have hbb : ((k : Int) == (a : Int)) = true := by simp [hka]
        have HM2 := Lib.hid (HM.out.congr (L' := mkM r c (clK a j (k + 1) 0 F)) (mkM_congr fun i jj _ _ => by
          unfold clK
          by_cases a1 : i = k
          · subst a1; simp [clF, hka]
          · by_cases a2 : i < k
            · simp [a2, show i < k + 1 by omega]
            · simp [a1, a2, show ¬ i < k + 1 by omega]))
        clear hka
        go_wp2_with fail
        go_roundw
        case rel => exact ⟨k + 1, by omega, by go_num, HM2, HK⟩
        case measure => simp [intOf]; omega
      · have hbb : ((k : Int) == (a : Int)) = false := by simp; omega
        obtain ⟨bk, ck, huk, k1, k2, k3, k4, k5, kfz, kcell⟩ := HM.out.rowF k hlt (by omega)
        obtain ⟨ba, ca, hua, a1, a2, a3, a4, a5, afz, acell⟩ := HM.out.rowF a ha (by omega)
        have hck := HM.out.cellAt huk
        have hcf := kcell j hj
        have ef : clK a j k 0 F k j = F k j := by simp [clK]
        rw [ef] at hcf
        have hne : bk ≠ ba := fun e => hka ((HM.out.apart a _ ba hua rfl).2 k _ huk (by rw [e]; rfl))
        have HUK := Lib.hid huk
        have HUA := Lib.hid hua
        have n1 : g ≠ bk := fun e => k3 (by rw [e]; rfl)
        have n2 : g ≠ ba := fun e => a3 (by rw [e]; rfl)
        have hji : (j : Int) < (c : Int) := by omega
        unfold maxLen at k5 a5
        have HKA := Lib.hid hka
        clear kcell acell kfz afz huk hua k3 a3 ef hka
        go_wp2_with fail
        go_loopw [29] (fun i wq => ∃ m : Nat, m ≤ c ∧ i = .int .i64 m ∧ Hid (OwnM 115 147 wq lo hi (.slice (some ⟨g, 0, none⟩) r cp) (mkM r c (clK a j k m F)) vs) ∧ Hid (TurnIn lo hi w wq)) (fun i _ => c - (intOf i).toNat)
        case atStart => exact ⟨0, Nat.zero_le _, rfl, HM, HK⟩
        case round =>
          obtain ⟨m, hm, rfl, HM, HK⟩ := hrel
          clear hck hcf
          by_cases hlm : m < c
          · have hmi : (m : Int) < (c : Int) := by omega
            have hk0 : (0 : Int) ≤ (k : Int) := Int.natCast_nonneg _
            have hm0 : (0 : Int) ≤ (m : Int) := Int.natCast_nonneg _
            have ha0 : (0 : Int) ≤ (a : Int) := Int.natCast_nonneg _
            have hai : (a : Int) < (r : Int) := by omega
            obtain ⟨bk', ck', huk, _, _, _, _, _, kfz, kcell⟩ := HM.out.rowF k hlt (by omega)
            obtain ⟨rfl, rfl⟩ : bk = bk' ∧ ck = ck' := by simpa using HUK.out.symm.trans huk
            obtain ⟨ba', ca', hua, _, _, _, _, _, afz, acell⟩ := HM.out.rowF a ha (by omega)
            obtain ⟨rfl, rfl⟩ : ba = ba' ∧ ca = ca' := by simpa using HUA.out.symm.trans hua
            have hck := HM.out.cellAt HUK.out
            have hca := HM.out.cellAt HUA.out
            have hcx := kcell m hlm
            have hcy := acell m hlm
            have hfr := kfz m
            have ex : clK a j k m F k m = F k m := by simp [clK]
            have ey : clK a j k m F a m = F a m := by unfold clK clF; split <;> simp
            rw [ex] at hcx
            rw [ey] at hcy
            have htr : Tab wr := fun i hi => (World.cell?_of_block (HK.out.block 3 (by have := HM0.out.top; omega) (by omega))).trans (HT.out i hi)
            have htd : Tab wr.drew := htr
            have HTR := Lib.hid htd
            obtain ⟨y, hyy⟩ : ∃ y : UInt8, y = F k m ^^^ gmul (F k j) (F a m) := ⟨_, rfl⟩
            have HPL : Hid (∀ W, Calls Tryz.prog 142 #[.int .u8 ((F k m).toNat : Int), .int .u8 ((gmul (F k j) (F a m)).toNat : Int)] W fun e w' => e = .returned (.int .u8 (y.toNat : Int)) ∧ w' = W) := by
              intro W
              rw [hyy]
              exact stilly (fbPlus_any (F k m) (gmul (F k j) (F a m)) W)
            have HM2 := Lib.hid (((HM.out.storeF (j := m) (x := y) hlt HUK.out).congr (L' := mkM r c (clK a j k (m + 1) F)) (mkM_congr fun i jj _ _ => by
              unfold clK
              by_cases b1 : i = k
              · subst b1
                by_cases b2 : jj = m
                · subst b2
                  have : ¬ i = a := HKA.out
                  simp [clF, this, hyy]
                · by_cases b3 : jj < m
                  · simp [b2, b3, show jj < m + 1 by omega]
                  · simp [b2, b3, show ¬ jj < m + 1 by omega]
              · simp [b1])).drewN 1)
            have hk2 := turn_trans HK.out (turn_setCell wr bk m (.int .u8 (y.toNat : Int))) (by omega)
            have HK2 : Hid (TurnIn lo hi w (wr.setCell ⟨bk, m, none⟩ (.int .u8 (y.toNat : Int))).drew) := ⟨hk2.os, hk2.tape, hk2.output, hk2.size, hk2.block⟩
            clear kcell acell kfz afz huk hua ex ey htr htd hk2 hyy
            go_wp2_with fail
            refine wp_region_still_tail 25 (by kernel_rfl) (by kernel_rfl) ?_
            simp only [List.take_succ_cons, List.take_zero, List.drop_succ_cons, List.drop_zero]
            repeat (first | still_step | still_call (stilly (fbTimes_any (F k j) (F a m) _ HTR.out)) | still_call (HPL.out _))
            refine wpStill_nil ?_
            go_wp2_with fail
            go_roundw
            case rel => exact ⟨m + 1, by omega, by go_num, HM2, HK2⟩
            case measure => simp [intOf]; omega
          · obtain rfl : m = c := by omega
            have hmi : ¬ (m : Int) < (m : Int) := by omega
            go_wp2_with fail
            go_roundw
            case rel => exact ⟨k + 1, by omega, by go_num, Lib.hid (HM.out.congr (mkM_congr fun i jj _ hjj => by
              unfold clK
              by_cases b1 : i = k
              · subst b1; simp [hjj]
              · by_cases b2 : i < k
                · simp [b2, show i < k + 1 by omega]
                · simp [b1, b2, show ¬ i < k + 1 by omega])), HK⟩
            case measure => simp [intOf]; omega
    · obtain rfl : k = r := by omega
      have hki : ¬ (k : Int) < (k : Int) := by omega
      go_wp2_with fail
      go_end0
      exact ⟨rfl, HM.out.congr (mkM_congr fun i j hi _ => by simp [clK, hi]), HK.out⟩
end Go.Proofs.YtfglkgeeelapgaaGreatDoor

/- eliminate: the rank and the reduced rows. -/
namespace G294
theorem swF_rows {r c a p : Nat} (E : Ents) (ha : a < r) (hp : p < r) : ∀ i, i < r → (mkM r c (swF a p E)).getD i [] = (mkM r c E).getD (sw a p i) [] := by
  intro i hi
  rw [mkM_getD _ _ _ _ hi, mkM_getD _ _ _ _ (sw_lt ha hp hi)]; rfl
theorem op_eq (E : Ents) (a k p : Nat) (i j : Nat) : clF a (fun i => scF a (ginv (E p k)) (swF a p E) i k) (scF a (ginv (E p k)) (swF a p E)) i j = opF (G294.opAt E a k p) E i j := by
  unfold opF G294.opAt clF
  by_cases h : i = a
  · simp [h]
  · simp [h, scF]
end G294
namespace Go.Proofs.YtfglkgeeelapgaaGreatDoor
open Go.RowKit G294

def RetElim (E EE : TypeId) (w : World) (lo hi : Nat) (v : Value) (L : Mat) (n : Nat) (e : Ending) (w' : World) : Prop := ∃ vs, e = .returned (.int .i64 n) ∧ OwnM E EE w' lo hi v L vs ∧ TurnIn lo hi w w'

set_option maxRecDepth 100000 in
set_option maxHeartbeats 4000000 in
theorem eliminate_any (r c n lo hi : Nat) (F : Ents) (v : Value) (vs0 : List Value) (w : World) (hM : OwnM 115 147 w lo hi v (mkM r c F) vs0) (hr1 : 1 ≤ r) (hn : n ≤ c) (hr : r ≤ 1000) (hc : c ≤ 1000) (ht : Tab w) (h0 : 3 < lo) :
    Calls Tryz.prog 105 #[v, .int .i64 n] w (RetElim 115 147 w lo hi v (mkM r c (est F r n).1) (est F r n).2) := by
  obtain ⟨g, cp, rfl, hg1, hg2, hg3, hg4⟩ := hM.sliceF (by omega)
  have HM0 := Lib.hid hM
  have HT := Lib.hid ht
  have htop := hM.top
  have hm1 := methInverse
  unfold maxLen at hg4
  clear hM ht
  go_enter Tryz.func105, Tryz.ntmps105
  go_wp2_with fail
  go_loopw [5, 10] (fun q i wr => ∃ (k a : Nat) (E : Ents) (vs : List Value), k ≤ n ∧ a ≤ r ∧ i = .int .i64 k ∧ q = .int .i64 a ∧ Hid (est F r k = (E, a)) ∧ Hid (OwnM 115 147 wr lo hi (.slice (some ⟨g, 0, none⟩) r cp) (mkM r c E) vs) ∧ Hid (TurnIn lo hi w wr)) (fun _ i _ => n - (intOf i).toNat)
  case atStart => exact ⟨0, 0, F, vs0, Nat.zero_le _, Nat.zero_le _, rfl, rfl, rfl, HM0, Lib.hid ⟨rfl, rfl, rfl, Nat.le_refl _, fun _ _ _ => rfl⟩⟩
  case round =>
    obtain ⟨k, a, E, vs, hk, har, rfl, rfl, HE, HM, HK⟩ := hrel
    by_cases hlt : k < n
    · have hki : (k : Int) < (n : Int) := by omega
      have hseen := Lib.hid HM.out.seen
      have htr : Tab wr := fun i hi => (World.cell?_of_block (HK.out.block 3 (by omega) (by omega))).trans (HT.out i hi)
      have HTR := Lib.hid htr
      clear htr
      go_wp2_with fail
      refine (pivotBelow_any r c a k E _ _ hseen.out hr1 hr hc har (by omega)).mono ?_
      rintro e w' ⟨rfl, rfl⟩
      rcases piv_cases E r a k with ⟨hp, _⟩ | ⟨p, hp, hap, hpr, hne, _⟩
      · rw [hp]
        have HE2 : Hid (est F r (k + 1) = (E, a)) := by
          show est F r (k + 1) = (E, a)
          rw [est_none (by rw [HE.out]; exact hp)]; exact HE.out
        clear hp
        unfold pivV
        go_wp2_with fail
        go_roundw
        case rel => exact ⟨k + 1, a, E, vs, by omega, har, by go_num, rfl, HE2, HM, HK⟩
        case measure => simp [intOf]; omega
      · rw [hp]
        have HE2 : Hid (est F r (k + 1) = (opF (G294.opAt E a k p) E, a + 1)) := by
          show est F r (k + 1) = _
          rw [est_some (p := p) (by rw [HE.out]; exact hp), HE.out]
        have har' : a < r := by omega
        obtain ⟨ba, ca, hua, _, _, _, _, _, _, _⟩ := HM.out.rowF a har' (by omega)
        obtain ⟨bp, cpp, hup, _, _, _, _, _, _, _⟩ := HM.out.rowF p hpr (by omega)
        have hca := HM.out.cellAt hua
        have hcp := HM.out.cellAt hup
        have hfa := HM.out.frozenAt a
        have hfp := HM.out.frozenAt p
        have hsw := (HM.out.swap (p := a) (q := p) (by simp) hua hup (L' := mkM r c (swF a p E)) (by simp) (fun i hi => swF_rows E har' hpr i (by simpa using hi)))
        have hrow : wr.ownsRow lo 147 1 (.slice (some ⟨g, 0, none⟩) r cp) r vs := by simpa using HM.out.row
        have hst := (hrow.stored a (.slice (some ⟨bp, 0, none⟩) c cpp)).1
        obtain ⟨z, hz⟩ : ∃ z, (wr.setCell ⟨g, a, none⟩ (.slice (some ⟨bp, 0, none⟩) c cpp)).cell? ⟨g, p, none⟩ = some z := by
          rw [hst.cellAt p (by omega)]
          exact ⟨_, List.getElem?_eq_getElem (by have := hst.1; omega)⟩
        have HSW := Lib.hid hsw
        have ha0 : (0 : Int) ≤ (a : Int) := Int.natCast_nonneg _
        have hai : (a : Int) < (r : Int) := by omega
        have hp0 : (0 : Int) ≤ (p : Int) := Int.natCast_nonneg _
        have hpi : (p : Int) < (r : Int) := by omega
        clear hp hne hsw hrow hst
        unfold pivV
        go_wp2_with fail
        go_region
        have HSW5 := Lib.hid (HSW.out.drewN 1)
        have hK5 : TurnIn lo hi w ((wr.setCell ⟨g, a, none⟩ (.slice (some ⟨bp, 0, none⟩) c cpp)).setCell ⟨g, p, none⟩ (.slice (some ⟨ba, 0, none⟩) c ca)).drew := by
          have t := turn_trans (turn_trans HK.out (turn_setCell wr g a (.slice (some ⟨bp, 0, none⟩) c cpp)) (by omega)) (turn_setCell _ g p (.slice (some ⟨ba, 0, none⟩) c ca)) (by omega)
          exact ⟨t.os, t.tape, t.output, t.size, t.block⟩
        change Hid (OwnM 115 147 ((wr.setCell ⟨g, a, none⟩ (.slice (some ⟨bp, 0, none⟩) c cpp)).setCell ⟨g, p, none⟩ (.slice (some ⟨ba, 0, none⟩) c ca)).drew lo hi (.slice (some ⟨g, 0, none⟩) r cp) (mkM r c (swF a p E)) ((vs.set a (.slice (some ⟨bp, 0, none⟩) c cpp)).set p (.slice (some ⟨ba, 0, none⟩) c ca))) at HSW5
        generalize ((wr.setCell ⟨g, a, none⟩ (.slice (some ⟨bp, 0, none⟩) c cpp)).setCell ⟨g, p, none⟩ (.slice (some ⟨ba, 0, none⟩) c ca)).drew = w5 at *
        generalize (vs.set a (.slice (some ⟨bp, 0, none⟩) c cpp)).set p (.slice (some ⟨ba, 0, none⟩) c ca) = vs5 at *
        have HK5 := Lib.hid hK5
        obtain ⟨b5, c5, hu5, _, _, _, _, e5, _, hcell5⟩ := HSW5.out.rowF a har' (by omega)
        have hc5 := HSW5.out.cellAt hu5
        have hx5 := hcell5 k (by omega)
        have ee : swF a p E a k = E p k := by simp [swF, sw]
        rw [ee] at hx5
        have HU5 := Lib.hid hu5
        have htr5 : Tab w5 := fun i hi => (World.cell?_of_block (HK5.out.block 3 (by omega) (by omega))).trans (HT.out i hi)
        have htd5 : Tab w5.drew := htr5
        have HTR5 := Lib.hid htd5
        have hkc : (k : Int) < (c : Int) := by omega
        have hk0 : (0 : Int) ≤ (k : Int) := Int.natCast_nonneg _
        unfold maxLen at e5
        clear hK5 hcell5 hu5 ee htr5 htd5 hca hcp hfa hfp hz hua hup HSW
        go_wp2_with fail
        refine wp_region_still_tail 13 (by kernel_rfl) (by kernel_rfl) ?_
        simp only [List.take_succ_cons, List.take_zero, List.drop_succ_cons, List.drop_zero]
        repeat (first | still_step | still_call (stilly (fbInverse_any (E p k) _ HTR5.out)))
        refine wpStill_nil ?_
        go_wp2_with fail
        refine (scaleRow_any r c a lo hi (swF a p E) (ginv (E p k)) _ _ vs5 w5.drew (HSW5.out.drewN 1) har' HU5.out (by omega) hc HTR5.out h0).mono ?_
        rintro e w6 ⟨rfl, hM6, hK6⟩
        have hK6' : TurnIn lo hi w w6 := turn_trans HK5.out (⟨hK6.os, hK6.tape, hK6.output, hK6.size, hK6.block⟩ : TurnIn lo hi w5 w6) (by omega)
        have HM6 := Lib.hid hM6
        have HK6 := Lib.hid hK6'
        have htr6 : Tab w6 := fun i hi => (World.cell?_of_block (HK6.out.block 3 (by omega) (by omega))).trans (HT.out i hi)
        have HTR6 := Lib.hid htr6
        clear hM6 hK6 hK6' htr6 hc5 hx5
        go_wp2_with fail
        refine (clearColumn_any r c a k lo hi (scF a (ginv (E p k)) (swF a p E)) _ vs5 w6 HM6.out har' (by omega) hr hc HTR6.out h0).mono ?_
        rintro e w7 ⟨rfl, hM7, hK7⟩
        have HM7 := Lib.hid (hM7.congr (L' := mkM r c (opF (G294.opAt E a k p) E)) (mkM_congr fun i j _ _ => op_eq E a k p i j))
        have HK7 := Lib.hid (turn_trans HK6.out hK7 (by omega))
        clear hM7 hK7
        go_wp2_with fail
        go_roundw
        case rel => exact ⟨k + 1, a + 1, _, vs5, by omega, by omega, by go_num, by go_num, HE2, HM7, HK7⟩
        case measure => simp [intOf]; omega
    · obtain rfl : k = n := by omega
      have hki : ¬ (k : Int) < (k : Int) := by omega
      go_wp2_with fail
      go_ret
      exact ⟨vs, by rw [HE.out]; rfl, by rw [HE.out]; exact HM.out, HK.out⟩
end Go.Proofs.YtfglkgeeelapgaaGreatDoor

/- sideBySide, multiplied, solved, fieldGrid, matrixOf. -/
namespace Go.Proofs.YtfglkgeeelapgaaGreatDoor
open Go.RowKit G294

set_option maxRecDepth 100000 in
set_option maxHeartbeats 1000000 in
theorem sideAt (r n c Bw Bl Br : Nat) (F G : Ents) (v u : Value) (w : World) (hBw : Bw < w.heap.size) (hBl : Bl < w.heap.size) (hBr : Br < w.heap.size) (hn : n ≤ 1000) (hc : c ≤ 1000)
    (hw : w.cell? ⟨Bw, 0, none⟩ = some (.int .i64 n)) (hv : w.cell? ⟨Bl, 0, none⟩ = some v) (hu : w.cell? ⟨Br, 0, none⟩ = some u) (hs : SeenM w v (mkM r n F)) (ht : SeenM w u (mkM r c G)) :
    GivesAt Tryz.prog 113 #[.pointer (some ⟨Bw, 0, none⟩), .pointer (some ⟨Bl, 0, none⟩), .pointer (some ⟨Br, 0, none⟩)] r (n + c) (hcF n F G) w := by
  intro W i j hb hi hj
  have hw' := (hb.cell (p := ⟨Bw, 0, none⟩) hBw).trans hw
  have hv' := (hb.cell (p := ⟨Bl, 0, none⟩) hBl).trans hv
  have hu' := (hb.cell (p := ⟨Br, 0, none⟩) hBr).trans hu
  by_cases hjn : j < n
  · obtain ⟨bb, off, cp, b', off', c', rfl, hl1, h1, h2, h3, hl2, h4⟩ := (hs.below hb).cellF i j hi hjn
    have HF : Hid (hcF n F G i j = F i j) := if_pos hjn
    unfold maxLen at hl1 hl2
    have hi' : (i : Int) < (r : Int) := by omega
    have hj' : (j : Int) < (n : Int) := by omega
    clear hw hv hu hs ht hu'
    go_enter Tryz.func113, Tryz.ntmps113
    go_wp2_with fail
    go_ret
    exact ⟨by rw [HF.out]; rfl, 0, rfl⟩
  · obtain ⟨d, rfl⟩ : ∃ d, j = n + d := ⟨j - n, by omega⟩
    obtain ⟨bb, off, cp, b', off', c', rfl, hl1, h1, h2, h3, hl2, h4⟩ := (ht.below hb).cellF i d hi (by omega)
    have HF : Hid (hcF n F G i (n + d) = G i d) := by show hcF n F G i (n + d) = G i d; unfold hcF; rw [if_neg (by omega)]; congr 1; omega
    unfold maxLen at hl1 hl2
    have hi' : (i : Int) < (r : Int) := by omega
    have hi0 : (0 : Int) ≤ (i : Int) := Int.natCast_nonneg _
    have hd0 : (0 : Int) ≤ (d : Int) := Int.natCast_nonneg _
    have hd' : (d : Int) < (c : Int) := by omega
    obtain ⟨x, hx⟩ : ∃ x, x = n + d := ⟨_, rfl⟩
    rw [← hx] at HF hjn ⊢
    have hxx : IntKind.i64.wrap ((x : Int) - (n : Int)) = (d : Int) := by rw [IntWalk.i64_in _ (by omega)]; omega
    have hj' : ¬ (x : Int) < (n : Int) := by omega
    clear hw hv hu hs ht hv' hx hjn
    go_enter Tryz.func113, Tryz.ntmps113
    go_wp2_with fail
    go_quiet (fail)
    go_wp2_with fail
    go_ret
    exact ⟨by rw [HF.out]; rfl, _, rfl⟩

set_option maxRecDepth 100000 in
set_option maxHeartbeats 1000000 in
theorem solvedAt (r n c Bb Bn : Nat) (F : Ents) (v : Value) (w : World) (hBb : Bb < w.heap.size) (hBn : Bn < w.heap.size) (hn : n ≤ 1000) (hc : c ≤ 1000)
    (hv : w.cell? ⟨Bb, 0, none⟩ = some v) (hw : w.cell? ⟨Bn, 0, none⟩ = some (.int .i64 n)) (hs : SeenM w v (mkM r (n + c) F)) :
    GivesAt Tryz.prog 106 #[.pointer (some ⟨Bb, 0, none⟩), .pointer (some ⟨Bn, 0, none⟩)] r c (fun i j => F i (n + j)) w := by
  intro W i j hb hi hj
  have hw' := (hb.cell (p := ⟨Bn, 0, none⟩) hBn).trans hw
  have hv' := (hb.cell (p := ⟨Bb, 0, none⟩) hBb).trans hv
  obtain ⟨x, hx⟩ : ∃ x, x = n + j := ⟨_, rfl⟩
  obtain ⟨y, hy⟩ : ∃ y, y = n + c := ⟨_, rfl⟩
  rw [← hy] at hs
  obtain ⟨bb, off, cp, b', off', c', rfl, hl1, h1, h2, h3, hl2, h4⟩ := (hs.below hb).cellF i x hi (by omega)
  have HF : Hid (F i (n + j) = F i x) := by show F i (n + j) = F i x; rw [hx]
  unfold maxLen at hl1 hl2
  have hi' : (i : Int) < (r : Int) := by omega
  have hi0 : (0 : Int) ≤ (i : Int) := Int.natCast_nonneg _
  have hx0 : (0 : Int) ≤ (x : Int) := Int.natCast_nonneg _
  have hx' : (x : Int) < (y : Int) := by omega
  have hxx : IntKind.i64.wrap ((n : Int) + (j : Int)) = (x : Int) := by rw [IntWalk.i64_in _ (by omega)]; omega
  clear hw hv hs hx hy
  go_enter Tryz.func106, Tryz.ntmps106
  go_wp2_with fail
  go_quiet (fail)
  go_wp2_with fail
  go_ret
  exact ⟨by rw [HF.out]; rfl, _, rfl⟩

set_option maxHeartbeats 1000000 in
theorem fieldGrid_own (r c : Nat) (F : Ents) (v : Value) (w : World) (hs : SeenM w v (mkM r c F)) (hr : 1 ≤ r) (hr2 : r ≤ 1000) (hc : c ≤ 1000) :
    Calls Tryz.prog 89 #[.agg #[v]] w (RetM 115 147 w (mkM r c F)) := by
  have k1 : TurnIn 0 0 w (w.alloc (.cells #[v] 70)) := turn_alloc _ _
  have HS := Lib.hid (hs.touch k1)
  have K1 := Lib.hid k1
  obtain ⟨A, cp, hvv, _, _⟩ := hs.len
  rw [mkM_length] at hvv
  subst hvv
  clear hs k1
  go_enter Tryz.func89, Tryz.ntmps89
  go_wp2_with fail
  refine (convertedB r c F _ _ HS.out hr hr2 hc).mono ?_
  rintro e w' ⟨v', vs', rfl, hM, ht⟩
  go_wp2_with fail
  go_ret
  exact RetM.base ⟨_, _, rfl, hM, ht⟩ K1.out.to_below

set_option maxHeartbeats 1000000 in
theorem matrixOf_own (r c : Nat) (F : Ents) (v : Value) (w : World) (hs : SeenM w v (mkM r c F)) (hr : 1 ≤ r) (hr2 : r ≤ 1000) (hc : c ≤ 1000) :
    Calls Tryz.prog 90 #[v] w (RetMat 5 22 w (mkM r c F)) := by
  have k1 : TurnIn 0 0 w (w.alloc (.cells #[.slice none 0 0] 70)) := turn_alloc _ _
  have HS := Lib.hid (hs.touch k1)
  have K1 := Lib.hid k1
  obtain ⟨A, cp, hvv, _, _⟩ := hs.len
  rw [mkM_length] at hvv
  subst hvv
  clear hs k1
  go_enter Tryz.func90, Tryz.ntmps90
  go_wp2_with fail
  refine (convertedF r c F _ _ HS.out hr hr2 hc).mono ?_
  rintro e w' ⟨v', vs', rfl, hM, ht⟩
  obtain ⟨A', n', c', rfl⟩ := hM.isSlice
  have hq := cell_turn ht (B := w.heap.size) (o := 0) (x := .slice none 0 0) (by simp) (by simp)
  have hqf := frozen_turn ht (B := w.heap.size) (o := 0) (x := false) (by simp) (by simp)
  have HF := Lib.hid (ret_store K1.out.to_below hM ht w.heap.size 0 (Nat.le_refl _) (by simp) (.slice A' n' c'))
  clear hM ht
  go_wp2_with fail
  refine bodyPost_ret (v := .agg #[.slice A' n' c']) (by simp [results, Tryz.results90, go_sem, hq]) rfl ?_
  exact ⟨_, vs', rfl, HF.out.1, HF.out.2⟩
end Go.Proofs.YtfglkgeeelapgaaGreatDoor
