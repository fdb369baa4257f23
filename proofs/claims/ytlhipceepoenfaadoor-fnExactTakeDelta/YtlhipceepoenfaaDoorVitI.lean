/- Chapter 10: bits as numbers: parsing by goto, texts of bits, differences: the program's. -/
import Derived.Test.YtlhipceepoenfaaDoorVitS3
import Derived.Test.YtlhipceepoenfaaDoorBytesOwn
import Derived.WalkMore
import Derived.ScopeJumps
import Derived.Scope
set_option linter.unusedSimpArgs false
set_option linter.unusedVariables false
namespace G294
open Go Go.RowKit
/-- characters as numbers, numbers as characters -/
def raw (s : List UInt8) : List UInt8 := s.map fun c => c - 48
def txt (b : List UInt8) : List UInt8 := b.map fun x => 48 + x
@[simp] theorem raw_len (s : List UInt8) : (raw s).length = s.length := by simp [raw]
@[simp] theorem txt_len (s : List UInt8) : (txt s).length = s.length := by simp [txt]
theorem add_sub48 (c : UInt8) : 48 + (c - 48) = c := by
  apply UInt8.toNat_inj.1
  have := c.toNat_lt
  simp only [UInt8.toNat_add, UInt8.toNat_sub]
  simp
  omega
theorem txt_raw (s : List UInt8) : txt (raw s) = s := by
  unfold txt raw
  rw [List.map_map]
  have : ((fun x => 48 + x) ∘ fun c : UInt8 => c - 48) = id := by funext c; exact add_sub48 c
  rw [this, List.map_id]
theorem raw_append (a b : List UInt8) : raw (a ++ b) = raw a ++ raw b := by simp [raw]
theorem raw_getD (s : List UInt8) {k : Nat} (h : k < s.length) : (raw s).getD k 0 = s.getD k 0 - 48 := by
  rw [getD_len (by simpa using h), getD_len h]; simp [raw]
theorem raw_take (s : List UInt8) (k : Nat) : raw (s.take k) = (raw s).take k := by simp [raw]
theorem sub48_inj {a b : UInt8} (h : a - 48 = b - 48) : a = b := by rw [← add_sub48 a, ← add_sub48 b, h]
theorem raw_dl (a b : List UInt8) : dl (raw a) (raw b) = dl a b := by
  induction a generalizing b with
  | nil => cases b <;> rfl
  | cons x a ih =>
    cases b with
    | nil => rfl
    | cons y b =>
      have := ih b
      simp only [raw, List.map_cons, dl] at this ⊢
      rw [this]
      by_cases e : x = y
      · subst e; simp
      · rw [if_neg e, if_neg (fun h => e (sub48_inj h))]
theorem raw_flip (s : List UInt8) (l : List Int) (hs : s.all isBitC = true) : ∀ k, (∀ j, j < k → (l.getD j 0).toNat < s.length) → raw (flipK s l k) = flipK (raw s) l k ∧ (flipK s l k).all isBitC = true
  | 0, _ => ⟨rfl, hs⟩
  | k + 1, h => by
    obtain ⟨h1, h2⟩ := raw_flip s l hs k (fun j hj => h j (by omega))
    have hq := h k (by omega)
    simp only [flipK]
    rw [← h1]
    generalize (l.getD k 0).toNat = q at hq ⊢
    have hl := flipK_len s l k
    generalize flipK s l k = t at h2 hl ⊢
    have hb : isBitC (t.getD q 0) = true := by rw [getD_len (by omega)]; exact List.all_eq_true.1 h2 _ (List.getElem_mem _)
    rw [raw_getD t (by omega)]
    generalize t.getD q 0 = c at hb ⊢
    have e : (c ^^^ 1) - 48 = (c - 48) ^^^ 1 ∧ isBitC (c ^^^ 1) = true := by
      rcases isBitC_or hb with rfl | rfl <;> decide
    refine ⟨by simp [raw, List.map_set, e.1], ?_⟩
    rw [List.all_eq_true]
    intro x hx
    rcases List.mem_or_eq_of_mem_set hx with h3 | h3
    · exact List.all_eq_true.1 h2 x h3
    · rw [h3]; exact e.2
def RetTxt (w : World) (l : List UInt8) (e : Ending) (w' : World) : Prop := RetStr w (txt l) e w'
theorem bys_snoc (l : List UInt8) (x : UInt8) : bys (l ++ [x]) = bys l ++ [.int .u8 (x.toNat : Int)] := by simp [bys]
theorem bys_rep0 (n : Nat) : bys (List.replicate n 0) = List.replicate n (.int .u8 0) := by simp [bys]
theorem add48 (x : UInt8) : (48 + (x.toNat : Int)) % 256 = ((48 + x : UInt8).toNat : Int) := by
  rw [UInt8.toNat_add]
  simp
end G294
namespace Go.Proofs.YtlhipceepoenfaaDoor
open Go.RowKit G294

set_option maxRecDepth 100000 in
set_option maxHeartbeats 2000000 in
theorem bitText_own (v : Value) (l : List UInt8) (w : World) (hv : Seen w v (bys l)) (hl : l.length ≤ 1000) : Calls Tryd.prog 63 #[v] w (RetStr w (txt l)) := by
  obtain ⟨i0, hi0, hz0, hz1, hz2⟩ := info_parts infoByte
  obtain ⟨A, c, rfl, hlc, hcm, hx⟩ := hv
  rw [bys_length] at hlc hx
  simp only [bys_length]
  unfold maxLen at hcm
  have HX := Lib.hid hx
  generalize hnn : l.length = n at *
  have HN := Lib.hid hnn
  have HTX : Hid (∀ k, k < n → (txt l).getD k 0 = 48 + l.getD k 0) := fun k hk => by
    rw [getD_len (by rw [txt_len, hnn]; exact hk), getD_len (by rw [hnn]; exact hk)]; simp [txt]
  clear hnn hx
  have hbm := bys_rep0 n
  go_enter Tryd.func63, Tryd.ntmps63
  go_wp2_with (at_make; refine wpList_make_full _ rfl _ _ _ rfl w.heap.size _ i0 _ 1 Tryd.underlying61 hi0 hz0 hz1 _ _ _ _ n rfl rfl rfl rfl ?b2 ?b3 ?b4 ?_)
  case b2 => rw [hz2]; omega
  case b3 => unfold maxLen; omega
  case b4 => exact Nat.le_refl _
  intro w1 hown1 hg1
  have hb1 : Below w.heap.size w w1 := below_of_grown hg1 (Nat.le_refl _) (by simp)
  rw [toList_madeCells_one, ← hbm] at hown1
  have hO1 : OwnBytes 5 w1 w.heap.size w1.heap.size (.slice (some ⟨w.heap.size, 0, none⟩) n n) ((txt l).take 0 ++ List.replicate (n - 0) 0) := by
    refine OwnBytes.of_made ?_
    simpa using hown1
  clear hg1 hown1 hbm
  go_wp2_with fail
  go_loopw [11] (fun i wr => ∃ k : Nat, k ≤ n ∧ i = .int .i64 k ∧ OwnBytes 5 wr w.heap.size wr.heap.size (.slice (some ⟨w.heap.size, 0, none⟩) n n) ((txt l).take k ++ List.replicate (n - k) 0) ∧ Below w.heap.size w wr) (fun i _ => n - (intOf i).toNat)
  case atStart => exact ⟨0, Nat.zero_le _, rfl, hO1, hb1⟩
  case round =>
    obtain ⟨k, hk, rfl, hO, hb⟩ := hrel
    clear hO1 hb1
    by_cases hlt : k < n
    · have hki : (k : Int) < (n : Int) := by omega
      have hkl : k < l.length := by rw [HN.out]; exact hlt
      obtain ⟨b, off, rfl, hbl, hcell⟩ := HX.out (by omega)
      have hcx := (hb.cell (p := ⟨b, off + k, none⟩) hbl).trans (hcell k _ (bys_get l k hkl))
      rw [← getD_len hkl 0] at hcx
      have htl : ((txt l).take k).length = k := by simp [HN.out]; omega
      have hll : ((txt l).take k ++ List.replicate (n - k) 0).length = n := by simp [htl, HN.out]; omega
      have hco := hO.cellAt (k := k) (by omega)
      have hfr := hO.frozenAt k
      have hset := take_set_next (txt l) (List.replicate (n - k) 0) k ((txt l).getD k 0) (by rw [List.getElem?_eq_getElem (by simp [HN.out]; exact hlt), getD_len (by simp [HN.out]; exact hlt)]) (by simp [HN.out]; omega)
      rw [List.tail_replicate] at hset
      have hst := hO.store (q := k) (x := (txt l).getD k 0) hll hset
      rw [HTX.out k hlt] at hst
      have hsm := add48 (l.getD k 0)
      have hb2 := hb.setCell (p := ⟨w.heap.size, k, none⟩) (Nat.le_refl _) (.int .u8 ((48 + l.getD k 0 : UInt8).toNat : Int))
      have HST := Lib.hid hst
      have HB2 := Lib.hid hb2
      generalize ((txt l).take k ++ List.replicate (n - k) 0).getD k 0 = z at hco
      generalize 48 + l.getD k 0 = y at *
      generalize l.getD k 0 = x at *
      clear hcell hset hst hb2 hll htl
      go_wp2_with fail
      go_roundw
      case rel => exact ⟨k + 1, by omega, by go_num, by
        have h := HST.out
        refine ⟨by simpa [Nat.sub_sub] using h.1, Nat.le_refl _, fun g e => by have := h.2.2 g e; simpa using this⟩, HB2.out⟩
      case measure => simp [intOf]; omega
    · obtain rfl : k = n := by omega
      have hki : ¬ (k : Int) < (k : Int) := by omega
      rw [Nat.sub_self, List.replicate_zero, List.append_nil, List.take_of_length_le (by simp [HN.out])] at hO
      have hseen := hO.seen
      have hconv := run_string_seen (P := Tryd.prog) 61 5 9 Tryd.underlying61 Tryd.underlying5 Tryd.underlying9 hseen
      clear hseen hO
      go_wp2_with fail
      go_ret
      exact ⟨rfl, TurnIn.of_below hb⟩

end Go.Proofs.YtlhipceepoenfaaDoor
