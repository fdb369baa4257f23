/- Joined texts: JoinMath, Split, SplitI, Join, GoodSh, CanDec, TabOf. -/
import Derived.Test.YtlkoafnlklhaeaaDoorBd11
import Derived.Test.YtlkoafnlklhaeaaDoorBd10
import Derived.Test.YtlkoafnlklhaeaaDoorBd02
import Derived.Lib.LazyBuf
import Derived.Lib.AppendStr
import Derived.Test.YtlkoafnlklhaeaaDoorBd03
import Derived.Test.YtlkoafnlklhaeaaDoorBd07
import Derived.Test.YtlkoafnlklhaeaaDoorBd09
import Derived.Test.YtlkoafnlklhaeaaDoorBd06
import Derived.Test.YtlkoafnlklhaeaaDoorRows
import Derived.Test.YtlkoafnlklhaeaaDoorBd00
set_option linter.unusedSimpArgs false
set_option linter.unusedVariables false
/- Texts of one length: equallyLong and l3Texts; the mathematics of JoinShards. -/
namespace G294
open Go Go.RowKit
/-- texts of one length, at most 40 -/
def textsOk (L : List (List UInt8)) : Bool := L.all fun s => decide (s.length = (L.getD 0 []).length ∧ s.length ≤ 40)
theorem textsOk_iff (L : List (List UInt8)) : textsOk L = true ↔ ∀ i (h : i < L.length), L[i].length = (L.getD 0 []).length ∧ L[i].length ≤ 40 := by
  unfold textsOk
  rw [List.all_eq_true]
  constructor
  · intro h i hi
    simpa using h L[i] (List.getElem_mem hi)
  · intro h s hs
    obtain ⟨i, hi, rfl⟩ := List.getElem_of_mem hs
    simpa using h i hi
theorem textsOk_false {L : List (List UInt8)} {i : Nat} (hi : i < L.length) (h : ¬ (L[i].length = (L.getD 0 []).length ∧ L[i].length ≤ 40)) : textsOk L = false := by
  rw [Bool.eq_false_iff]
  intro ht
  exact h ((textsOk_iff L).1 ht i hi)
theorem flatten_const : ∀ (L : List (List UInt8)) (n : Nat), (∀ s ∈ L, s.length = n) → L.flatten.length = L.length * n
  | [], n, _ => by simp
  | a :: L, n, h => by
    have h1 := h a (by simp)
    have ih := flatten_const L n (fun s hs => h s (by simp [hs]))
    simp only [List.flatten_cons, List.length_append, List.length_cons, ih, h1]
    rw [Nat.add_mul]; omega
theorem textsOk_flatten {L : List (List UInt8)} (h : textsOk L = true) : L.flatten.length = L.length * (L.getD 0 []).length := by
  apply flatten_const
  intro s hs
  obtain ⟨i, hi, rfl⟩ := List.getElem_of_mem hs
  exact ((textsOk_iff L).1 h i hi).1
theorem textsOk_first {L : List (List UInt8)} (h : textsOk L = true) : (L.getD 0 []).length ≤ 40 := by
  cases L with
  | nil => simp
  | cons a L => have := ((textsOk_iff _).1 h 0 (by simp)).2; simpa using this
theorem flatten_take_succ (L : List (List UInt8)) (k : Nat) (hk : k < L.length) : (L.take (k + 1)).flatten = (L.take k).flatten ++ L[k] := by
  rw [List.take_succ_eq_append_getElem hk, List.flatten_append]; simp
theorem flatten_take_le (L : List (List UInt8)) (k : Nat) : (L.take k).flatten.length ≤ L.flatten.length := by
  have h : L.flatten = (L.take k).flatten ++ (L.drop k).flatten := by rw [← List.flatten_append, List.take_append_drop]
  rw [h]; simp
def joinOk (L : List (List UInt8)) (z : Int) : Bool := (dataOk L.length && textsOk L) && decide (0 ≤ z ∧ z ≤ L.flatten.length)
def joinR (L : List (List UInt8)) (z : Int) : List UInt8 := if joinOk L z then L.flatten.take z.toNat else []
end G294

/- SplitText: the model's and the program's. -/
namespace Go.Proofs.YtlkoafnlklhaeaaDoor
open Go.RowKit G294

end Go.Proofs.YtlkoafnlklhaeaaDoor

/- SplitText: the program's. -/
namespace G294
open Go Go.RowKit
theorem own_setCells {base g n cap : Nat} {e : TypeId} : ∀ (vs : List Value) (o : Nat) (w : World) (xs : List Value), w.ownsRow base e 1 (.slice (some ⟨g, 0, none⟩) n cap) n xs → o + vs.length ≤ n →
    (w.setCells g o vs).ownsRow base e 1 (.slice (some ⟨g, 0, none⟩) n cap) n (xs.take o ++ (vs ++ xs.drop (o + vs.length))) ∧ w.grownBy (w.setCells g o vs) (some g)
  | [], o, w, xs, h, hl => ⟨by simpa [World.setCells] using h, World.grownBy.refl _ _⟩
  | v :: r, o, w, xs, h, hl => by
    have hx : xs.length = n := by have := h.1; omega
    have hs := h.stored o v
    have ih := own_setCells r (o + 1) _ _ hs.1 (by simp at hl; omega)
    refine ⟨?_, hs.2.trans ih.2⟩
    have e : xs.take o ++ (v :: r ++ xs.drop (o + (v :: r).length)) = (xs.set o v).take (o + 1) ++ (r ++ (xs.set o v).drop (o + 1 + r.length)) := by
      have ho : o < xs.length := by simp at hl; omega
      rw [List.take_succ_eq_append_getElem (by simpa using ho)]
      simp only [List.getElem_set_self, List.take_set_of_le (Nat.le_refl o), List.append_assoc, List.cons_append, List.nil_append, List.length_cons]
      rw [List.drop_set_of_lt (by omega)]
      congr 4
      omega
    rw [e]
    exact ih.1
/-- copy(dst, s) of a text that is no longer than the row, onto a row of the call's own -/
theorem run_copy_str {P : Program} {w : World} (dT sT ty elem : TypeId) (hu : P.underlying dT = some (.slice elem)) (hsz : ∀ w, (Go.sizeOf elem).run P w = .ok 1 w)
    (base g n cap : Nat) (t : List UInt8) (xs : List Value) (hown : w.ownsRow base elem 1 (.slice (some ⟨g, 0, none⟩) n cap) n xs) (hle : t.length ≤ n) :
    ∃ w', (Builtin.copy_ #[dT, sT] ty #[.slice (some ⟨g, 0, none⟩) n cap, .string (str t)]).run P w = .ok (goInt t.length) w' ∧ w'.ownsRow base elem 1 (.slice (some ⟨g, 0, none⟩) n cap) n (bys t ++ xs.drop t.length) ∧ w.grownBy w' (some g) := by
  have hx : xs.length = n := by have := hown.1; omega
  have hrun := run_copy_string (P := P) w dT sT ty elem g 0 n cap (str t) hu hsz (by rw [str_size]; exact hle) (fun j hj => by
    rw [str_size] at hj
    rw [Nat.zero_add, hown.cellAt j (by omega), List.getElem?_eq_getElem (by omega)]; rfl) (fun j hj => by rw [Nat.zero_add]; exact hown.frozenAt j)
  have hst := own_setCells (bys t) 0 w xs hown (by simpa using hle)
  have hm : ((str t).data.toList.map fun x => Value.int .u8 (x.toNat : Int)) = bys t := by simp [str, bys]
  rw [hm, str_size] at hrun
  exact ⟨_, hrun, by simpa using hst.1, hst.2⟩
/-- a part of a row of bytes -/
theorem seen_part {E : TypeId} {w : World} {lo hi g n cap a z : Nat} {l : List UInt8} (h : OwnBytes E w lo hi (.slice (some ⟨g, 0, none⟩) n cap) l) (hl : l.length = n) (hc : cap ≤ maxLen) (hnc : n ≤ cap) (ha : a + z ≤ n) :
    Seen w (.slice (some ⟨g, a, none⟩) z (cap - a)) (bys ((l.drop a).take z)) := by
  have hlen : ((l.drop a).take z).length = z := by rw [List.length_take, List.length_drop]; omega
  refine ⟨_, cap - a, by rw [bys_length, hlen], by rw [bys_length, hlen]; omega, by omega, fun _ => ⟨g, a, rfl, (h.1.lt g rfl).2, fun i u hu => ?_⟩⟩
  have hi : i < ((l.drop a).take z).length := by have := (List.getElem?_eq_some_iff.1 hu).1; simpa using this
  rw [bys_get _ i hi] at hu
  rw [hlen] at hi
  have hc' := h.1.cells (g := g) rfl (a + i) _ (bys_get l (a + i) (by omega))
  rw [Addr.add_lit, Nat.zero_add] at hc'
  rw [hc', ← hu]
  simp
theorem seen_part0 {w : World} {A : Option Addr} {c : Nat} (hc : c ≤ maxLen) (l : List UInt8) (hl : l = []) : Seen w (.slice A 0 c) (bys l) := by
  subst hl
  exact ⟨A, c, rfl, Nat.zero_le _, hc, fun h => by simp at h⟩
end G294
namespace Go.Proofs.YtlkoafnlklhaeaaDoor
open Go.RowKit G294

theorem sizeByte (w : World) : (Go.sizeOf 5).run Tryd.prog w = .ok 1 w := by
  obtain ⟨i0, hi0, hz0, hz1, hz2⟩ := info_parts infoByte
  simp [Go.sizeOf, typeInfo, hi0, hz1]

end Go.Proofs.YtlkoafnlklhaeaaDoor

/- equallyLong, l3Texts; JoinShards: the model's and the program's. -/
namespace Go.Proofs.YtlkoafnlklhaeaaDoor
open Go.RowKit G294

set_option maxRecDepth 100000 in
set_option maxHeartbeats 2000000 in
theorem equallyLong_any (v : Value) (L : List (List UInt8)) (w : World) (hv : Seen w v (strs L)) : Calls Tryd.prog 116 #[v] w fun e w' => e = .returned (.bool (textsOk L)) ∧ w = w' := by
  obtain ⟨A, c, rfl, hlc, hcm, hx⟩ := hv
  rw [strs_length] at hlc hx
  simp only [strs_length]
  unfold maxLen at hcm
  generalize hnn : L.length = n at *
  have HN := Lib.hid hnn
  clear hnn
  go_enter Tryd.func116, Tryd.ntmps116
  go_wp2_with fail
  go_loop [7] (fun i => ∃ k : Nat, k ≤ n ∧ i = .int .i64 k ∧ Hid (∀ i (h : i < L.length), i < k → L[i].length = (L.getD 0 []).length ∧ L[i].length ≤ 40)) (fun i => n - (intOf i).toNat)
  case atStart => exact ⟨0, Nat.zero_le _, rfl, fun i h h' => by omega⟩
  case round =>
    obtain ⟨k, hk, rfl, HE⟩ := hrel
    by_cases hlt : k < n
    · have hki : (k : Int) < (n : Int) := by omega
      have hkl : k < L.length := by rw [HN.out]; exact hlt
      obtain ⟨b, off, rfl, hbl, hcell⟩ := hx (by omega)
      have hcx := hcell k _ (strs_get L k hkl)
      have hc0 := hcell 0 _ (strs_get L 0 (by omega))
      rw [Nat.add_zero] at hc0
      have hsk := str_size L[k]
      have hs0 := str_size (L[0]'(by omega))
      have HG : Hid (L.getD 0 [] = L[0]'(by omega)) := by show _ = _; simp [List.getD, show 0 < L.length by omega]
      clear hcell hx
      by_cases h40 : L[k].length ≤ 40
      · by_cases heq : L[k].length = (L[0]'(by omega)).length
        · have HK : Hid (∀ i (h : i < L.length), i < k + 1 → L[i].length = (L.getD 0 []).length ∧ L[i].length ≤ 40) := fun i h h' => by
            rcases Nat.lt_or_ge i k with h2 | h2
            · exact HE.out i h h2
            · obtain rfl : i = k := by omega
              rw [HG.out]; exact ⟨heq, h40⟩
          generalize hnk : L[k].length = nk at *
          generalize hn0 : (L[0]'(by omega)).length = n0 at *
          subst heq
          have t1 : decide ((40 : Int) < (nk : Int)) = false := by simp; omega
          have t2 : ((nk : Int) != (nk : Int)) = false := by simp
          go_wp2_with fail
          go_round
          case rel => exact ⟨k + 1, by omega, by go_num, HK⟩
          case measure => simp [intOf]; omega
        · have HF : Hid (textsOk L = false) := textsOk_false hkl (by rw [HG.out]; omega)
          generalize hnk : L[k].length = nk at *
          generalize hn0 : (L[0]'(by omega)).length = n0 at *
          have t1 : decide ((40 : Int) < (nk : Int)) = false := by simp; omega
          have t2 : ((nk : Int) != (n0 : Int)) = true := by simp; omega
          go_wp2_with fail
          go_ret
          exact ⟨by rw [HF.out]; rfl, rfl⟩
      · have HF : Hid (textsOk L = false) := textsOk_false hkl (by omega)
        generalize hnk : L[k].length = nk at *
        have t1 : decide ((40 : Int) < (nk : Int)) = true := by simp; omega
        go_wp2_with fail
        go_ret
        exact ⟨by rw [HF.out]; rfl, rfl⟩
    · obtain rfl : k = n := by omega
      have hki : ¬ (k : Int) < (k : Int) := by omega
      have HF : Hid (textsOk L = true) := (textsOk_iff L).2 fun i h => HE.out i h (by rw [HN.out] at h; exact h)
      go_wp2_with fail
      go_ret
      exact ⟨by rw [HF.out]; rfl, rfl⟩

set_option maxRecDepth 100000 in
set_option maxHeartbeats 2000000 in
theorem l3Texts_any (v : Value) (L : List (List UInt8)) (w : World) (hv : Seen w v (strs L)) : Calls Tryd.prog 114 #[v] w fun e w' => e = .returned (.bool (textsOk L)) ∧ w = w' := by
  obtain ⟨A, c, rfl, hlc, hcm, hx⟩ := hv
  rw [strs_length] at hlc hx
  simp only [strs_length]
  unfold maxLen at hcm
  generalize hnn : L.length = n at *
  have HN := Lib.hid hnn
  clear hnn
  go_enter Tryd.func114, Tryd.ntmps114
  go_wp2_with fail
  go_loop [7] (fun i => ∃ k : Nat, k ≤ n ∧ i = .int .i64 k ∧ Hid (∀ i (h : i < L.length), i < k → L[i].length = (L.getD 0 []).length ∧ L[i].length ≤ 40)) (fun i => n - (intOf i).toNat)
  case atStart => exact ⟨0, Nat.zero_le _, rfl, fun i h h' => by omega⟩
  case round =>
    obtain ⟨k, hk, rfl, HE⟩ := hrel
    by_cases hlt : k < n
    · have hki : (k : Int) < (n : Int) := by omega
      have hkl : k < L.length := by rw [HN.out]; exact hlt
      obtain ⟨b, off, rfl, hbl, hcell⟩ := hx (by omega)
      have hcx := hcell k _ (strs_get L k hkl)
      have hc0 := hcell 0 _ (strs_get L 0 (by omega))
      rw [Nat.add_zero] at hc0
      have hsk := str_size L[k]
      have hs0 := str_size (L[0]'(by omega))
      have HG : Hid (L.getD 0 [] = L[0]'(by omega)) := by show _ = _; simp [List.getD, show 0 < L.length by omega]
      clear hcell hx
      by_cases heq : L[k].length = (L[0]'(by omega)).length
      · by_cases h40 : L[k].length ≤ 40
        · have HK : Hid (∀ i (h : i < L.length), i < k + 1 → L[i].length = (L.getD 0 []).length ∧ L[i].length ≤ 40) := fun i h h' => by
            rcases Nat.lt_or_ge i k with h2 | h2
            · exact HE.out i h h2
            · obtain rfl : i = k := by omega
              rw [HG.out]; exact ⟨heq, h40⟩
          generalize hnk : L[k].length = nk at *
          generalize hn0 : (L[0]'(by omega)).length = n0 at *
          subst heq
          have t1 : decide ((40 : Int) < (nk : Int)) = false := by simp; omega
          have t2 : ((nk : Int) != (nk : Int)) = false := by simp
          go_wp2_with fail
          go_round
          case rel => exact ⟨k + 1, by omega, by go_num, HK⟩
          case measure => simp [intOf]; omega
        · have HF : Hid (textsOk L = false) := textsOk_false hkl (by omega)
          generalize hnk : L[k].length = nk at *
          generalize hn0 : (L[0]'(by omega)).length = n0 at *
          subst heq
          have t1 : decide ((40 : Int) < (nk : Int)) = true := by simp; omega
          have t2 : ((nk : Int) != (nk : Int)) = false := by simp
          go_wp2_with fail
          go_ret
          exact ⟨by rw [HF.out]; rfl, rfl⟩
      · have HF : Hid (textsOk L = false) := textsOk_false hkl (by rw [HG.out]; omega)
        generalize hnk : L[k].length = nk at *
        generalize hn0 : (L[0]'(by omega)).length = n0 at *
        have t2 : ((nk : Int) != (n0 : Int)) = true := by simp; omega
        go_wp2_with fail
        go_ret
        exact ⟨by rw [HF.out]; rfl, rfl⟩
    · obtain rfl : k = n := by omega
      have hki : ¬ (k : Int) < (k : Int) := by omega
      have HF : Hid (textsOk L = true) := (textsOk_iff L).2 fun i h => HE.out i h (by rw [HN.out] at h; exact h)
      go_wp2_with fail
      go_ret
      exact ⟨by rw [HF.out]; rfl, rfl⟩

end Go.Proofs.YtlkoafnlklhaeaaDoor

/- Valid shards: the program's goodShards, the model's l3Shards; the model's l3All. -/
namespace G294
open Go Go.RowKit
/-- the number of the last of the first k -/
def lastNo (l : List Sh) : Nat → Int
  | 0 => -1
  | k + 1 => (l.getD k (0, [])).1
/-- the numbers rise strictly from 0 on and stay below n -/
def risesN (n : Int) (l : List Sh) : Bool := (List.range l.length).all fun i => decide (lastNo l i < (l.getD i (0, [])).1 ∧ (l.getD i (0, [])).1 < n)
def shardsOk (l : List Sh) (n : Int) : Bool := risesN n l && textsOk (l.map (·.2))
theorem rises_at (n : Int) (l : List Sh) : risesN n l = true ↔ ∀ (i : Nat) (s : Sh), l[i]? = some s → lastNo l i < s.1 ∧ s.1 < n := by
  unfold risesN
  rw [List.all_eq_true]
  constructor
  · intro h i s hi
    have hl := (List.getElem?_eq_some_iff.1 hi).1
    have h3 := h i (List.mem_range.2 hl)
    rw [decide_eq_true_eq] at h3
    have e : l.getD i (0, []) = s := by simp [List.getD, hi]
    rw [e] at h3
    exact h3
  · intro h i hi
    have hl := List.mem_range.1 hi
    have e : l.getD i (0, []) = l[i] := by simp [List.getD, hl]
    rw [decide_eq_true_eq, e]
    exact h i l[i] (List.getElem?_eq_getElem hl)
theorem rises_false {n : Int} {l : List Sh} {i : Nat} {s : Sh} (hi : l[i]? = some s) (h : ¬ (lastNo l i < s.1 ∧ s.1 < n)) : risesN n l = false := by
  rw [Bool.eq_false_iff]
  intro ht
  exact h ((rises_at n l).1 ht i s hi)
theorem lastNo_succ {l : List Sh} {k : Nat} {s : Sh} (h : l[k]? = some s) : lastNo l (k + 1) = s.1 := by simp [lastNo, List.getD, h]
theorem all_ints (n : Nat) : (List.range (n + 1)).map (fun i : Nat => (i : Int)) = (List.range n).map (fun i : Nat => (i : Int)) ++ [(n : Int)] := by simp [List.range_succ]
end G294
namespace Go.Proofs.YtlkoafnlklhaeaaDoor
open Go.RowKit G294

set_option maxRecDepth 100000 in
set_option maxHeartbeats 2000000 in
theorem goodShards_any (v : Value) (l : List Sh) (m : Int) (w : World) (hv : SeenH w v l) (hn : l.length ≤ 1048576) : Calls Tryd.prog 126 #[v, .int .i64 m] w (RetBool w (shardsOk l m)) := by
  have HV := Lib.hid hv
  obtain ⟨A, c, rfl, hlc, hcm, hx⟩ := hv
  unfold maxLen at hcm
  generalize hnn : l.length = n at *
  have HN := Lib.hid hnn
  clear hnn
  go_enter Tryd.func126, Tryd.ntmps126
  go_wp2_with fail
  go_loopw [5, 10] (fun q i wr => ∃ (k : Nat) (la : Int), k ≤ n ∧ i = .int .i64 k ∧ q = .int .i64 la ∧ Hid (la = lastNo l k) ∧ Hid (∀ j s, l[j]? = some s → j < k → lastNo l j < s.1 ∧ s.1 < m) ∧ Below w.heap.size w wr)
    (fun _ i _ => n - (intOf i).toNat)
  case atStart => exact ⟨0, -1, Nat.zero_le _, rfl, rfl, Eq.refl (-1 : Int), (fun j s hj h => by omega), Below.refl _ _⟩
  case round =>
    obtain ⟨k, la, hk, rfl, rfl, HLA, HE, hb⟩ := hrel
    by_cases hlt : k < n
    · obtain ⟨b, off, rfl, hbl, hcell⟩ := hx (by omega)
      obtain ⟨⟨no, s⟩, hks⟩ := at_lt HN.out hlt
      have hc1 := (hb.cell (p := ⟨b, off + k * 2, none⟩) hbl).trans (hcell k _ hks).1
      have hc2 := (hb.cell (p := ⟨b, off + k * 2 + 1, none⟩) hbl).trans (hcell k _ hks).2
      simp only at hc1 hc2
      have hki : (k : Int) < (n : Int) := by omega
      have hb2 := hb.alloc hb.size (.cells #[.int .i64 no, .string (str s)] 91)
      have HLN : Hid (no = lastNo l (k + 1)) := (lastNo_succ hks).symm
      clear hcell hx
      by_cases h1 : la < no
      · have t1 : decide (no ≤ la) = false := by simp; omega
        by_cases h2 : no < m
        · have t2 : decide (m ≤ no) = false := by simp; omega
          have HK : Hid (∀ j s, l[j]? = some s → j < k + 1 → lastNo l j < s.1 ∧ s.1 < m) := fun j s' hj h => by
            rcases Nat.lt_or_ge j k with h' | h'
            · exact HE.out j s' hj h'
            · obtain rfl : j = k := by omega
              obtain rfl : (no, s) = s' := Option.some.inj (hks.symm.trans hj)
              rw [← HLA.out]; exact ⟨h1, h2⟩
          clear hks
          go_wp2_with fail
          go_roundw
          case rel => exact ⟨k + 1, no, by omega, by go_num, rfl, HLN, HK, hb2⟩
          case measure => simp [intOf]; omega
        · have t2 : decide (m ≤ no) = true := by simp; omega
          have HF : Hid (shardsOk l m = false) := by show shardsOk l m = false; rw [shardsOk, rises_false hks (by simp only; omega)]; rfl
          clear hks
          go_wp2_with fail
          go_ret
          exact ⟨by rw [HF.out]; rfl, TurnIn.of_below hb2⟩
      · have t1 : decide (no ≤ la) = true := by simp; omega
        have HF : Hid (shardsOk l m = false) := by show shardsOk l m = false; rw [shardsOk, rises_false hks (by rw [← HLA.out]; simp only; omega)]; rfl
        clear hks
        go_wp2_with fail
        go_ret
        exact ⟨by rw [HF.out]; rfl, TurnIn.of_below hb2⟩
    · obtain rfl : k = n := by omega
      have hki : ¬ (k : Int) < (k : Int) := by omega
      have HR : Hid (shardsOk l m = textsOk (l.map (·.2))) := by
        show _ = _
        rw [shardsOk, (rises_at m l).2 (fun j s hj => HE.out j s hj (by have := (List.getElem?_eq_some_iff.1 hj).1; rw [HN.out] at this; exact this))]; rfl
      have hbs := hb.size
      go_wp2_with fail
      refine (textsOf_own _ l _ (HV.out.below hb) (by rw [HN.out]; exact hn)).mono ?_
      rintro e w2 ⟨v2, rfl, hO, k2⟩
      have HO := Lib.hid hO
      clear hO
      go_wp2_with fail
      refine (equallyLong_any _ _ _ HO.out.seen).mono ?_
      rintro e w' ⟨rfl, rfl⟩
      go_wp2_with fail
      go_ret
      exact ⟨by rw [HR.out]; rfl, TurnIn.of_below (k2.base hb (by omega) (by omega))⟩

set_option maxRecDepth 100000 in
set_option maxHeartbeats 1000000 in
theorem l3All_own (n : Nat) (w : World) (hn : n ≤ 1000) : Calls Tryd.prog 134 #[.int .i64 n] w (RetInts 3 w ((List.range n).map fun i : Nat => (i : Int))) := by
  go_enter Tryd.func134, Tryd.ntmps134
  go_wp2_with fail
  go_loopw [3, 4] (fun o i wr => ∃ k : Nat, k ≤ n ∧ i = .int .i64 k ∧ wr.ownsRow w.heap.size 3 1 o k (ints ((List.range k).map fun i : Nat => (i : Int))) ∧ Below w.heap.size w wr)
    (fun _ i _ => n - (intOf i).toNat)
  case atStart => exact ⟨0, Nat.zero_le _, rfl, World.ownsRow_nil _ _ _ _, Below.refl _ _⟩
  case round =>
    obtain ⟨k, hk, rfl, hown, hb⟩ := hrel
    by_cases hlt : k < n
    · have hki : (k : Int) < (n : Int) := by omega
      have hbs := hb.size
      go_wp2_with (at_builtin; refine wpList_append1 rfl _ _ _ rfl w.heap.size 3 _ _ Tryd.underlying97 infoInt rfl _ k _ rfl (hown.alloc _) wr.heap.size (.int .i64 k) rfl ?c1 rfl ?c2 ?c3 ?c4 ?_)
      case c1 => simp
      case c2 => omega
      case c3 => omega
      case c4 => simp; omega
      intro v' w' hown' hg' _
      have hb' : Below w.heap.size w w' := below_append (hb.alloc hb.size _) (hown.alloc _) hg' (Nat.le_refl _) (by simp; omega)
      have hown2 : w'.ownsRow w.heap.size 3 1 v' (k + 1) (ints ((List.range (k + 1)).map fun i : Nat => (i : Int))) := by
        rw [all_ints, ints_append]; exact hown'
      clear hown' hg'
      go_wp2_with fail
      go_roundw
      case rel => exact ⟨k + 1, by omega, by go_num, hown2, hb'⟩
      case measure => simp [intOf]; omega
    · obtain rfl : k = n := by omega
      have hki : ¬ (k : Int) < (k : Int) := by omega
      go_wp2_with fail
      go_ret
      exact ⟨_, rfl, OwnInts.of_made (by simpa using hown), TurnIn.of_below hb⟩

end Go.Proofs.YtlkoafnlklhaeaaDoor

/- CanDecode, the program's and the model's; the model's l2Rank. -/
namespace G294
open Go Go.RowKit
def locN (g e q : Int) : Nat := (g * e + g + q).toNat
def canOk (g e q : Int) (l : List Int) : Bool := locOk g e q && someOk l (locN g e q)
def canR (g e q : Int) (l : List Int) : Bool := canOk g e q l && ((rankR (pickM (locR g e q) l) : Int) == g * e)
def RetBools (w : World) (a b : Bool) (e : Ending) (w' : World) : Prop := e = .returned (.tuple #[.bool a, .bool b]) ∧ TurnIn 0 0 w w'
theorem some_at {l : List Int} {size : Nat} (h : someOk l size = true) : ∀ i, i < l.length → 0 ≤ l.getD i 0 ∧ l.getD i 0 < (size : Int) := fun i hi => by
  have := (someOk_iff l size).1 h i hi
  unfold okAt at this
  omega
theorem range_getD {k j : Nat} (h : j < k) : ((List.range k).map fun (i : Nat) => (i : Int)).getD j 0 = (j : Int) := by simp [List.getD, h]
/-- the rows of a local code that a list names -/
theorem loc_pick {g e q d : Nat} (hd : g * e = d) {l : List Int} (h : someOk l (d + g + q) = true) :
    pickM (locM g e q) l = mkM l.length d (fun i j => locF d e g (l.getD i 0).toNat j) := by
  subst hd
  exact pickM_mk (some_at h)
end G294
namespace Go.Proofs.YtlkoafnlklhaeaaDoor
open Go.RowKit G294

set_option maxRecDepth 100000 in
set_option maxHeartbeats 1000000 in
theorem l2Rank_own (v : Value) (L : Mat) (w : World) (hs : SeenM w v L) (hg : goodM L = true) : Calls Tryd.prog 132 #[.agg #[v]] w (RetInt w (rankR L)) := by
  have k1 : TurnIn 0 0 w (w.alloc (.cells #[v] 70)) := turn_alloc _ _
  have q1 := alloc_cell w v 70
  have hs1 := hs.touch k1
  have HR : Hid (rankR L = (est (ent L) L.length (wid L)).2) := if_pos hg
  obtain ⟨g1, g2, g3, g4, _⟩ := (goodM_iff L).1 hg
  have HS : Hid (SeenM (w.alloc (.cells #[v] 70)) v (mkM L.length (wid L) (ent L))) := (good_eq hg) ▸ hs1
  obtain ⟨A, cp, rfl, hlc, hcm⟩ := hs.len
  clear hs hs1
  go_enter Tryd.func132, Tryd.ntmps132
  go_wp2_with fail
  refine (l2Reduce_own L.length (wid L) (wid L) (ent L) (ent L) _ _ _ HS.out HS.out g1 (by omega) g3 (by omega) g3 (by omega)).mono ?_
  rintro e w2 ⟨A2, a2, c2, vb, us, rfl, hM, k2⟩
  obtain ⟨A3, a3, c3, rfl⟩ := hM.isSlice
  have kk : TurnIn 0 0 w2 ((w2.alloc (.cells #[.slice A2 a2 c2] 70)).alloc (.cells #[.slice A3 a3 c3] 70)) := turn_trans (turn_alloc _ _) (turn_alloc _ _) (by omega)
  clear hM
  rw [← HR.out]
  go_wp2_with fail
  go_ret
  exact ⟨rfl, turn_trans (turn_trans k1 k2 (by omega)) kk (by omega)⟩

set_option maxRecDepth 100000 in
set_option maxHeartbeats 2000000 in
theorem canDecode_own (g e q : Int) (u : Value) (l : List Int) (w : World) (hu : Seen w u (ints l)) (ht : Tab w) (h0 : 1 < w.heap.size) :
    Calls Tryd.prog 64 #[locV g e q, u] w (RetBools w (canR g e q l) (canOk g e q l)) := by
  have a1 := turn_alloc w (.cells #[.int .i64 g, .int .i64 e, .int .i64 q] 73)
  have z1 := World.size_alloc w (.cells #[.int .i64 g, .int .i64 e, .int .i64 q] 73)
  have cg := alloc_tri0 w (.int .i64 g) (.int .i64 e) (.int .i64 q) 73
  have ce := alloc_tri1 w (.int .i64 g) (.int .i64 e) (.int .i64 q) 73
  have cq := alloc_tri2 w (.int .i64 g) (.int .i64 e) (.int .i64 q) 73
  have HU := Lib.hid hu
  obtain ⟨Au, cu, hvv⟩ := hu.len
  rw [ints_length] at hvv
  subst hvv
  clear hu
  have HT1 := Lib.hid (ht.below a1.to_below h0)
  by_cases h : locOk g e q = true
  · have hb := locOk_b h
    have HL := Lib.hid h
    have HLR : Hid (sizM (locR g e q) ≤ 256) := locR_siz g e q
    obtain ⟨⟨hg, he⟩, hq, hd1, hd2⟩ := hb
    obtain ⟨g, rfl⟩ := Int.eq_ofNat_of_zero_le (show 0 ≤ g by omega)
    obtain ⟨e, rfl⟩ := Int.eq_ofNat_of_zero_le (show 0 ≤ e by omega)
    obtain ⟨q, rfl⟩ := Int.eq_ofNat_of_zero_le (show 0 ≤ q by omega)
    have HR := Lib.hid (locR_yes h)
    obtain ⟨d, hd⟩ : ∃ d, d = g * e := ⟨_, rfl⟩
    have HGE : Hid ((g : Int) * (e : Int) = (d : Int)) := by show _ = _; rw [← Int.natCast_mul, hd]
    rw [HGE.out] at hd1 hd2
    have HDE : Hid (g * e = d) := hd.symm
    have HN : Hid (locN g e q = d + g + q) := by show locN _ _ _ = _; unfold locN; rw [HGE.out]; omega
    have HML : Hid ((locM g e q).length = d + g + q) := by show _ = _; simp [locM, HDE.out]
    clear h hd
    by_cases hne : l.length = 0
    · have hl0 : l = [] := List.length_eq_zero_iff.1 hne
      subst hl0
      have HOK : Hid (canOk g e q [] = true) := by show canOk _ _ _ _ = true; simp [canOk, HL.out, someOk]
      have HCR : Hid (canR g e q [] = false) := by
        show canR _ _ _ _ = false
        have e0 : rankR (pickM (locR g e q) []) = 0 := rfl
        simp only [canR, HOK.out, e0, HGE.out, Bool.true_and]
        simp; omega
      go_enter Tryd.func64, Tryd.ntmps64
      go_wp2_with fail
      refine (localMatrix_own (g : Int) (e : Int) (q : Int) _ HT1.out (by omega)).mono ?_
      rintro e' w2 ⟨v2, vs2, rfl, hM, k2⟩
      rw [HL.out]
      obtain ⟨A2, n2, c2, rfl⟩ := hM.isSlice
      have a3 := turn_alloc w2 (.cells #[.slice A2 n2 c2] 70)
      have k3 := turn_trans (turn_trans a1 k2 (by omega)) a3 (by omega)
      clear hM
      go_wp2_with fail
      refine bodyPost_ret (v := .tuple #[.bool false, .bool true]) (by simp [results, Tryd.results64, go_sem]) rfl ?_
      exact ⟨by rw [HOK.out, HCR.out], k3⟩
    · have hlb : (((l.length : Nat) : Int) == 0) = false := by simp; intro e; exact hne (by simp [e])
      by_cases hso : someOk l (d + g + q) = true
      · have hlen := some_len hso
        have HCH : Hid (chosen l (d + g + q) = true) := by show chosen _ _ = true; simp only [chosen, hso, Bool.true_and, decide_eq_true_eq]; omega
        have HOK : Hid (canOk g e q l = true) := by show canOk _ _ _ _ = true; simp only [canOk, HL.out, HN.out, hso, Bool.true_and]
        have HP := Lib.hid (loc_pick HDE.out hso)
        have HGM : Hid (goodM (pickM (locM g e q) l) = true) := by show goodM _ = true; rw [HP.out]; exact good_mkM _ _ _ (by omega) (by omega) (by omega) (by omega)
        have HAT := Lib.hid (some_at hso)
        have HCR : Hid (canR g e q l = ((rankR (pickM (locM g e q) l) : Int) == (d : Int))) := by show canR _ _ _ _ = _; simp only [canR, HOK.out, HGE.out, HR.out, Bool.true_and]
        clear hso
        go_enter Tryd.func64, Tryd.ntmps64
        go_wp2_with fail
        refine (localMatrix_own (g : Int) (e : Int) (q : Int) _ HT1.out (by omega)).mono ?_
        rintro e' w2 ⟨v2, vs2, rfl, hM, k2⟩
        rw [HL.out]
        rw [HR.out] at hM
        obtain ⟨A2, n2, c2, rfl⟩ := hM.isSlice
        have hnn : n2 = d + g + q := by
          obtain ⟨_, _, e2, _⟩ := hM.seen.len
          rw [HML.out] at e2
          simp only [Value.slice.injEq] at e2
          exact e2.2.1
        subst hnn
        have s2 := k2.size
        have a3 := turn_alloc w2 (.cells #[.slice A2 (d + g + q) c2] 70)
        have z3 := World.size_alloc w2 (.cells #[.slice A2 (d + g + q) c2] 70)
        have c3 := alloc_cell w2 (.slice A2 (d + g + q) c2) 70
        have k3 := turn_trans k2 a3 (by omega)
        have HSM := Lib.hid ((hM.keep a3 (by omega)).seen)
        replace cg := cell_turn k3 cg (by omega)
        replace ce := cell_turn k3 ce (by omega)
        replace cq := cell_turn k3 cq (by omega)
        have k3' := turn_trans a1 k3 (by omega)
        have HU3 := Lib.hid (HU.out.below k3'.to_below)
        have HT3 := Lib.hid (ht.below k3'.to_below h0)
        clear hM a3
        generalize hD : d + g + q = D at *
        have HDD := Lib.hid hD
        clear hD
        go_wp2_with fail
        refine (goodChoice_any _ l D _ HU3.out (by have := HDD.out; omega)).mono ?_
        rintro e' w' ⟨rfl, rfl⟩
        rw [HCH.out]
        go_wp2_with fail
        refine (rowsAt_seen _ (locM g e q) _ l _ HSM.out HU3.out (by have := HDD.out; omega) (fun i hi => by rw [HML.out]; exact HAT.out i hi)).mono ?_
        rintro e' w4 ⟨A4, n4, c4, rfl, hS4, k4⟩
        have s4 := k4.size
        have HT4 := Lib.hid (HT3.out.below k4.to_below (by omega))
        replace cg := cell_turn k4 cg (by omega)
        replace ce := cell_turn k4 ce (by omega)
        replace cq := cell_turn k4 cq (by omega)
        have HS4 := Lib.hid hS4
        clear hS4
        go_wp2_with fail
        refine (rankOf_own _ _ _ HS4.out HT4.out (by omega)).mono ?_
        rintro e' w5 ⟨rfl, k5⟩
        rw [HGM.out]
        have s5 := k5.size
        replace cg := cell_turn k5 cg (by omega)
        replace ce := cell_turn k5 ce (by omega)
        replace cq := cell_turn k5 cq (by omega)
        generalize hrk : rankR (pickM (locM g e q) l) = rk at *
        go_wp2_with fail
        refine (localData_any (g : Int) (e : Int) (q : Int) _ (by rw [HGE.out]; omega)).mono ?_
        rintro e' w6 ⟨rfl, k6⟩
        rw [HGE.out]
        generalize hbq : ((rk : Int) == (d : Int)) = bq at *
        go_wp2_with fail
        refine bodyPost_ret (v := .tuple #[.bool bq, .bool true]) (by simp [results, Tryd.results64, go_sem]) rfl ?_
        exact ⟨by rw [HOK.out, HCR.out], turn_trans (turn_trans (turn_trans k3' k4 (by omega)) k5 (by omega)) k6 (by omega)⟩
      · have hso : someOk l (d + g + q) = false := by simpa using hso
        have HCH : Hid (chosen l (d + g + q) = false) := by show chosen _ _ = false; simp only [chosen, hso, Bool.false_and]
        have HOK : Hid (canOk g e q l = false) := by show canOk _ _ _ _ = false; simp only [canOk, HL.out, HN.out, hso, Bool.and_false]
        have HCR : Hid (canR g e q l = false) := by show canR _ _ _ _ = _; simp only [canR, HOK.out, Bool.false_and]
        clear hso
        go_enter Tryd.func64, Tryd.ntmps64
        go_wp2_with fail
        refine (localMatrix_own (g : Int) (e : Int) (q : Int) _ HT1.out (by omega)).mono ?_
        rintro e' w2 ⟨v2, vs2, rfl, hM, k2⟩
        rw [HL.out]
        rw [HR.out] at hM
        obtain ⟨A2, n2, c2, rfl⟩ := hM.isSlice
        have hnn : n2 = d + g + q := by
          obtain ⟨_, _, e2, _⟩ := hM.seen.len
          rw [HML.out] at e2
          simp only [Value.slice.injEq] at e2
          exact e2.2.1
        subst hnn
        have s2 := k2.size
        have a3 := turn_alloc w2 (.cells #[.slice A2 (d + g + q) c2] 70)
        have c3 := alloc_cell w2 (.slice A2 (d + g + q) c2) 70
        have k3' := turn_trans a1 (turn_trans k2 a3 (by omega)) (by omega)
        have HU3 := Lib.hid (HU.out.below k3'.to_below)
        clear hM a3
        generalize hD : d + g + q = D at *
        have HDD := Lib.hid hD
        clear hD
        go_wp2_with fail
        refine (goodChoice_any _ l D _ HU3.out (by have := HDD.out; omega)).mono ?_
        rintro e' w' ⟨rfl, rfl⟩
        rw [HCH.out]
        go_wp2_with fail
        refine bodyPost_ret (v := .tuple #[.bool false, .bool false]) (by simp [results, Tryd.results64, go_sem]) rfl ?_
        exact ⟨by rw [HOK.out, HCR.out], k3'⟩
  · have HL : Hid (locOk g e q = false) := by show locOk g e q = false; simpa using h
    have HOK : Hid (canOk g e q l = false) := by show canOk _ _ _ _ = false; simp only [canOk, HL.out, Bool.false_and]
    have HCR : Hid (canR g e q l = false) := by show canR _ _ _ _ = _; simp only [canR, HOK.out, Bool.false_and]
    clear h
    go_enter Tryd.func64, Tryd.ntmps64
    go_wp2_with fail
    refine (localMatrix_own g e q _ HT1.out (by omega)).mono ?_
    rintro e' w2 ⟨v2, vs2, rfl, hM, k2⟩
    rw [HL.out]
    obtain ⟨A2, n2, c2, rfl⟩ := hM.isSlice
    have a3 := turn_alloc w2 (.cells #[.slice A2 n2 c2] 70)
    have k3 := turn_trans (turn_trans a1 k2 (by omega)) a3 (by omega)
    clear hM
    go_wp2_with fail
    refine bodyPost_ret (v := .tuple #[.bool false, .bool false]) (by simp [results, Tryd.results64, go_sem]) rfl ?_
    exact ⟨by rw [HOK.out, HCR.out], k3⟩

set_option maxRecDepth 100000 in
set_option maxHeartbeats 4000000 in
theorem sCanDecode_own (g e q : Int) (u : Value) (l : List Int) (w : World) (hu : Seen w u (ints l)) :
    Calls Tryd.prog 62 #[locV g e q, u] w (RetBools w (canR g e q l) (canOk g e q l)) := by
  have a1 := turn_alloc w (.cells #[.int .i64 g, .int .i64 e, .int .i64 q] 73)
  have z1 := World.size_alloc w (.cells #[.int .i64 g, .int .i64 e, .int .i64 q] 73)
  have cg := alloc_tri0 w (.int .i64 g) (.int .i64 e) (.int .i64 q) 73
  have ce := alloc_tri1 w (.int .i64 g) (.int .i64 e) (.int .i64 q) 73
  have cq := alloc_tri2 w (.int .i64 g) (.int .i64 e) (.int .i64 q) 73
  have HU := Lib.hid hu
  obtain ⟨Au, cu, hvv⟩ := hu.len
  rw [ints_length] at hvv
  subst hvv
  clear hu
  by_cases h : locOk g e q = true
  · have hb := locOk_b h
    have HL := Lib.hid h
    obtain ⟨⟨hg, he⟩, hq, hd1, hd2⟩ := hb
    obtain ⟨g, rfl⟩ := Int.eq_ofNat_of_zero_le (show 0 ≤ g by omega)
    obtain ⟨e, rfl⟩ := Int.eq_ofNat_of_zero_le (show 0 ≤ e by omega)
    obtain ⟨q, rfl⟩ := Int.eq_ofNat_of_zero_le (show 0 ≤ q by omega)
    have HR := Lib.hid (locR_yes h)
    obtain ⟨d, hd⟩ : ∃ d, d = g * e := ⟨_, rfl⟩
    have HGE : Hid ((g : Int) * (e : Int) = (d : Int)) := by show _ = _; rw [← Int.natCast_mul, hd]
    rw [HGE.out] at hd1 hd2
    have HDE : Hid (g * e = d) := hd.symm
    have HN : Hid (locN g e q = d + g + q) := by show locN _ _ _ = _; unfold locN; rw [HGE.out]; omega
    clear h hd
    by_cases hso : someOk l (d + g + q) = true
    · have HSO := Lib.hid hso
      have hlen := some_len hso
      have HOK : Hid (canOk g e q l = true) := by show canOk _ _ _ _ = true; simp only [canOk, HL.out, HN.out, hso, Bool.true_and]
      have HCR : Hid (canR g e q l = ((rankR (pickM (locM g e q) l) : Int) == (d : Int))) := by show canR _ _ _ _ = _; simp only [canR, HOK.out, HGE.out, HR.out, Bool.true_and]
      have HP := Lib.hid (loc_pick HDE.out hso)
      have HAT := Lib.hid (some_at hso)
      clear hso
      by_cases hne : l.length = 0
      · have hl0 : l = [] := List.length_eq_zero_iff.1 hne
        subst hl0
        have HCR2 : Hid (canR g e q [] = false) := by
          show canR _ _ _ _ = false
          rw [HCR.out]
          have e0 : rankR (pickM (locM g e q) []) = 0 := rfl
          rw [e0]; simp; omega
        go_enter Tryd.func62, Tryd.ntmps62
        go_wp2_with fail
        refine (sGoodLocal_any (g : Int) (e : Int) (q : Int) _).mono ?_
        rintro e' w2 ⟨rfl, k2⟩
        rw [HL.out]
        have s2 := k2.size
        replace cg := cell_turn k2 cg (by omega)
        replace ce := cell_turn k2 ce (by omega)
        replace cq := cell_turn k2 cq (by omega)
        go_wp2_with fail
        refine (l4Many_any g e q d _ HGE (by omega) (by omega) (by omega)).mono ?_
        rintro e' w3 ⟨rfl, k3⟩
        have s3 := k3.size
        have k3' := turn_trans (turn_trans a1 k2 (by omega)) k3 (by omega)
        go_wp2_with fail
        refine (l1Some_any _ [] (d + g + q) _ (HU.out.below k3'.to_below) (by omega) (by omega)).mono ?_
        rintro e' w' ⟨rfl, rfl⟩
        rw [HSO.out]
        go_wp2_with fail
        refine bodyPost_ret (v := .tuple #[.bool false, .bool true]) (by simp [results, Tryd.results62, go_sem]) rfl ?_
        exact ⟨by rw [HOK.out, HCR2.out], k3'⟩
      · have hlb : (((l.length : Nat) : Int) == 0) = false := by simp; intro e; exact hne (by simp [e])
        have HGM : Hid (goodM (pickM (locM g e q) l) = true) := by show goodM _ = true; rw [HP.out]; exact good_mkM _ _ _ (by omega) (by omega) (by omega) (by omega)
        have HPE : Hid (mkM l.length ((List.range d).map fun (i : Nat) => (i : Int)).length (fun i j => locF d e g (l.getD i 0).toNat (((List.range d).map fun (i : Nat) => (i : Int)).getD j 0).toNat) = pickM (locM g e q) l) := by
          show _ = _
          rw [HP.out]
          simp only [List.length_map, List.length_range]
          exact mkM_congr fun i j _ hj => by rw [range_getD hj, Int.toNat_natCast]
        go_enter Tryd.func62, Tryd.ntmps62
        go_wp2_with fail
        refine (sGoodLocal_any (g : Int) (e : Int) (q : Int) _).mono ?_
        rintro e' w2 ⟨rfl, k2⟩
        rw [HL.out]
        have s2 := k2.size
        replace cg := cell_turn k2 cg (by omega)
        replace ce := cell_turn k2 ce (by omega)
        replace cq := cell_turn k2 cq (by omega)
        go_wp2_with fail
        refine (l4Many_any g e q d _ HGE (by omega) (by omega) (by omega)).mono ?_
        rintro e' w3 ⟨rfl, k3⟩
        have s3 := k3.size
        replace cg := cell_turn k3 cg (by omega)
        replace ce := cell_turn k3 ce (by omega)
        replace cq := cell_turn k3 cq (by omega)
        have k3' := turn_trans (turn_trans a1 k2 (by omega)) k3 (by omega)
        go_wp2_with fail
        refine (l1Some_any _ l (d + g + q) _ (HU.out.below k3'.to_below) (by omega) (by omega)).mono ?_
        rintro e' w' ⟨rfl, rfl⟩
        rw [HSO.out]
        generalize hbq : ((rankR (pickM (locM g e q) l) : Int) == (d : Int)) = bq at *
        have HBQ := Lib.hid hbq
        clear hbq
        go_wp2_with fail
        have hS : (fun W : World => W.cell? ⟨w.heap.size, 0, none⟩ = some (.int .i64 g) ∧ W.cell? ⟨w.heap.size, 1, none⟩ = some (.int .i64 e) ∧ W.cell? ⟨w.heap.size, 2, none⟩ = some (.int .i64 q)) w3.drew := ⟨cg, ce, cq⟩
        refine wp_region_tail (fun W : World => W.cell? ⟨w.heap.size, 0, none⟩ = some (.int .i64 g) ∧ W.cell? ⟨w.heap.size, 1, none⟩ = some (.int .i64 e) ∧ W.cell? ⟨w.heap.size, 2, none⟩ = some (.int .i64 q)) 12 (by kernel_rfl) ?_
        refine wpAnyT_take (i := 0) (oi := _) (v := ?v0) rfl (by kernel_rfl) (by kernel_rfl) (by kernel_rfl) (by kernel_rfl) (fun _ _ _ h => h) (Or.inl ⟨by rfl, ?hy0⟩) hS ?rest0
        case hy0 => (intro W hW; obtain ⟨e1, e2, e3⟩ := hW; go_simp; try with_reducible rfl)
        simp only [Act.put, List.setIfInBounds_toArray, List.set_cons_zero, List.set_cons_succ]
        refine wpAnyT_take (i := 2) (oi := _) (v := ?v2) rfl (by kernel_rfl) (by kernel_rfl) (by kernel_rfl) (by kernel_rfl) (fun _ _ _ h => h) (Or.inl ⟨by rfl, ?hy2⟩) hS ?rest2
        case hy2 => (intro W hW; obtain ⟨e1, e2, e3⟩ := hW; go_simp; try with_reducible rfl)
        simp only [Act.put, List.setIfInBounds_toArray, List.set_cons_zero, List.set_cons_succ]
        refine wpAnyT_take (i := 3) (oi := _) (v := ?v3) rfl (by kernel_rfl) (by kernel_rfl) (by kernel_rfl) (by kernel_rfl) (fun _ _ _ h => h) (Or.inl ⟨by rfl, ?hy3⟩) hS ?rest3
        case hy3 => (intro W hW; obtain ⟨e1, e2, e3⟩ := hW; go_simp; try with_reducible rfl)
        simp only [Act.put, List.setIfInBounds_toArray, List.set_cons_zero, List.set_cons_succ]
        refine wpAnyT_take (i := 8) (oi := _) (v := ?v8) rfl (by kernel_rfl) (by kernel_rfl) (by kernel_rfl) (by kernel_rfl) (fun _ _ _ h => h) (Or.inl ⟨by rfl, ?hy8⟩) hS ?rest8
        case hy8 => (intro W hW; obtain ⟨e1, e2, e3⟩ := hW; go_simp; try with_reducible rfl)
        simp only [Act.put, List.setIfInBounds_toArray, List.set_cons_zero, List.set_cons_succ]
        refine wpAnyT_one (i := 1) (o := _) rfl (by kernel_rfl) (fun K hK => ?_)
        go_simp
        refine (l4Matrix_own g e q d _ (by omega) (by omega) (by omega) (by omega) HDE).mono ?_
        rintro e' w4 ⟨v4, vs4, rfl, hM4, k4⟩
        replace k4 := undrew k4
        have s4 := k4.size
        obtain ⟨A4, n4, c4, rfl⟩ := hM4.isSlice
        have HS4 : Hid (SeenM w4 (.slice A4 n4 c4) (mkM (d + g + q) d (locF d e g))) := by have := hM4.seen; unfold locM at this; rwa [HDE.out] at this
        refine hK.out _ _ (fun _ => ⟨cell_turn k4 cg (by omega), cell_turn k4 ce (by omega), cell_turn k4 cq (by omega)⟩) ?_
        clear hK K hS hM4
        try simp only [Act.put, List.setIfInBounds_toArray, List.set_cons_zero, List.set_cons_succ]
        refine wpAnyT_one (i := 4) (o := _) rfl (by kernel_rfl) (fun K hK => ?_)
        go_simp
        refine (l4Data_any (g : Int) (e : Int) (q : Int) _ (by rw [HGE.out]; omega)).mono ?_
        rintro e' w5 ⟨rfl, k5⟩
        rw [HGE.out]
        have s5 := k5.size
        have k5' := turn_trans k4 k5 (by omega)
        refine hK.out _ _ (fun _ => ⟨cell_turn k5' cg (by omega), cell_turn k5' ce (by omega), cell_turn k5' cq (by omega)⟩) ?_
        clear hK K
        try simp only [Act.put, List.setIfInBounds_toArray, List.set_cons_zero, List.set_cons_succ]
        refine wpAnyT_one (i := 5) (o := _) rfl (by kernel_rfl) (fun K hK => ?_)
        go_simp
        refine (l3All_own d _ (by omega)).mono ?_
        rintro e' w6 ⟨v6, rfl, hO6, k6⟩
        have s6 := k6.size
        have k6' := turn_trans k5' k6 (by omega)
        obtain ⟨A6, n6, c6, rfl⟩ := own_isSlice hO6.1
        refine hK.out _ _ (fun _ => ⟨cell_turn k6' cg (by omega), cell_turn k6' ce (by omega), cell_turn k6' cq (by omega)⟩) ?_
        clear hK K
        try simp only [Act.put, List.setIfInBounds_toArray, List.set_cons_zero, List.set_cons_succ]
        refine wpAnyT_one (i := 6) (o := _) rfl (by kernel_rfl) (fun K hK => ?_)
        go_simp
        refine (l2Part_own (d + g + q) d (locF d e g) l ((List.range d).map fun (i : Nat) => (i : Int)) _ _ _ _ ((HS4.out.touch k5).touch k6) (HU.out.below (turn_trans k3' k6' (by omega)).to_below) hO6.seen HAT.out (fun i hi => by simp only [List.length_map, List.length_range] at hi; rw [range_getD hi]; omega) (by omega) (by simp; omega)).mono ?_
        rintro e' w7 ⟨v7, vs7, rfl, hM7, k7⟩
        rw [HPE.out] at hM7
        have s7 := k7.size
        have k7' := turn_trans k6' k7 (by omega)
        obtain ⟨A7, n7, c7, rfl⟩ := hM7.isSlice
        have HS7 := Lib.hid hM7.seen
        refine hK.out _ _ (fun _ => ⟨cell_turn k7' cg (by omega), cell_turn k7' ce (by omega), cell_turn k7' cq (by omega)⟩) ?_
        clear hK K hM7 hO6
        try simp only [Act.put, List.setIfInBounds_toArray, List.set_cons_zero, List.set_cons_succ]
        refine wpAnyT_one (i := 7) (o := _) rfl (by kernel_rfl) (fun K hK => ?_)
        go_simp
        refine (l2Rank_own _ _ _ HS7.out HGM.out).mono ?_
        rintro e' w8 ⟨rfl, k8⟩
        have s8 := k8.size
        have k8' := turn_trans k7' k8 (by omega)
        refine hK.out _ _ (fun _ => ⟨cell_turn k8' cg (by omega), cell_turn k8' ce (by omega), cell_turn k8' cq (by omega)⟩) ?_
        clear hK K
        try simp only [Act.put, List.setIfInBounds_toArray, List.set_cons_zero, List.set_cons_succ]
        refine wpAnyT_one (i := 9) (o := _) rfl (by kernel_rfl) (fun K hK => ?_)
        go_simp
        refine (l4Data_any (g : Int) (e : Int) (q : Int) _ (by rw [HGE.out]; omega)).mono ?_
        rintro e' w9 ⟨rfl, k9⟩
        rw [HGE.out]
        have s9 := k9.size
        have k9' := turn_trans k8' k9 (by omega)
        have hbq := HBQ.out
        refine hK.out _ _ (fun _ => ⟨cell_turn k9' cg (by omega), cell_turn k9' ce (by omega), cell_turn k9' cq (by omega)⟩) ?_
        clear hK K
        try simp only [Act.put, List.setIfInBounds_toArray, List.set_cons_zero, List.set_cons_succ]
        refine wpAnyT_one (i := 10) (o := _) rfl (by kernel_rfl) (fun K hK => ?_)
        go_simp
        refine hK.out _ _ (fun _ => ⟨cell_turn k9' cg (by omega), cell_turn k9' ce (by omega), cell_turn k9' cq (by omega)⟩) ?_
        clear hK K
        try simp only [Act.put, List.setIfInBounds_toArray, List.set_cons_zero, List.set_cons_succ]
        refine wpAnyT_one (i := 11) (o := _) rfl (by kernel_rfl) (fun K hK => ?_)
        go_simp
        refine hK.out _ _ (fun _ => ⟨cell_turn k9' cg (by omega), cell_turn k9' ce (by omega), cell_turn k9' cq (by omega)⟩) ?_
        clear hK K
        try simp only [Act.put, List.setIfInBounds_toArray, List.set_cons_zero, List.set_cons_succ]
        refine wpAnyT_one (i := 12) (o := _) rfl (by kernel_rfl) (fun K hK => ?_)
        go_simp
        refine hK.out _ _ (fun h => absurd rfl h) ?_
        clear hK K
        refine wpAnyT_done (by kernel_rfl) ?_ _
        simp only [Exit.inBlock, Exit.then]
        go_wp2_with fail
        refine bodyPost_ret (v := .tuple #[.bool bq, .bool true]) (by simp [results, Tryd.results62, go_sem]) rfl ?_
        exact ⟨by rw [HOK.out, HCR.out], turn_trans k3' k9' (by omega)⟩
    · have hso : someOk l (d + g + q) = false := by simpa using hso
      have HSO := Lib.hid hso
      have HOK : Hid (canOk g e q l = false) := by show canOk _ _ _ _ = false; simp only [canOk, HL.out, HN.out, hso, Bool.and_false]
      have HCR : Hid (canR g e q l = false) := by show canR _ _ _ _ = _; simp only [canR, HOK.out, Bool.false_and]
      clear hso
      go_enter Tryd.func62, Tryd.ntmps62
      go_wp2_with fail
      refine (sGoodLocal_any (g : Int) (e : Int) (q : Int) _).mono ?_
      rintro e' w2 ⟨rfl, k2⟩
      rw [HL.out]
      have s2 := k2.size
      replace cg := cell_turn k2 cg (by omega)
      replace ce := cell_turn k2 ce (by omega)
      replace cq := cell_turn k2 cq (by omega)
      go_wp2_with fail
      refine (l4Many_any g e q d _ HGE (by omega) (by omega) (by omega)).mono ?_
      rintro e' w3 ⟨rfl, k3⟩
      have s3 := k3.size
      have k3' := turn_trans (turn_trans a1 k2 (by omega)) k3 (by omega)
      go_wp2_with fail
      refine (l1Some_any _ l (d + g + q) _ (HU.out.below k3'.to_below) (by omega) (by omega)).mono ?_
      rintro e' w' ⟨rfl, rfl⟩
      rw [HSO.out]
      go_wp2_with fail
      refine bodyPost_ret (v := .tuple #[.bool false, .bool false]) (by simp [results, Tryd.results62, go_sem]) rfl ?_
      exact ⟨by rw [HOK.out, HCR.out], k3'⟩
  · have HL : Hid (locOk g e q = false) := by show locOk g e q = false; simpa using h
    have HOK : Hid (canOk g e q l = false) := by show canOk _ _ _ _ = false; simp only [canOk, HL.out, Bool.false_and]
    have HCR : Hid (canR g e q l = false) := by show canR _ _ _ _ = _; simp only [canR, HOK.out, Bool.false_and]
    clear h
    go_enter Tryd.func62, Tryd.ntmps62
    go_wp2_with fail
    refine (sGoodLocal_any g e q _).mono ?_
    rintro e' w2 ⟨rfl, k2⟩
    rw [HL.out]
    go_wp2_with fail
    refine bodyPost_ret (v := .tuple #[.bool false, .bool false]) (by simp [results, Tryd.results62, go_sem]) rfl ?_
    exact ⟨by rw [HOK.out, HCR.out], turn_trans a1 k2 (by omega)⟩

end Go.Proofs.YtlkoafnlklhaeaaDoor

/- The table of remainders, out of what a row lays. -/
namespace Go.Proofs.YtlkoafnlklhaeaaDoor
open Go.ChangeShapes Go.WideShapes Go.ChangeAt Go.RowKit

theorem byte_of_wf {x : Int} (h : (Lit.int .u8 x).wf = true) : ∃ n : Nat, n < 256 ∧ x = n := by
  have hb := bounds_u8 h
  exact ⟨x.toNat, by omega, by omega⟩
theorem tab_of {laid : List (String × DataW Unit)} {W : World} (hpl : (laid.all fun x => x.2.handleName?.isNone) = true) (h : laidMetH Tryd.prog laid W) (i : Nat) {name : String}
    (hi : laid[i]? = some (name, Lib.tabData .u8 [27, 54, 108, 216, 171, 77, 154])) (hg : Tryd.prog.globalNamed name = some 1) : Tab W ∧ 1 < W.heap.size := by
  obtain ⟨hc, hs⟩ := G294.tab_of_laid hpl h i (g := 1) (t := 232) (e := 5) (n := 7) hi hg (by kernel_rfl) Tryd.underlying232 Tryd.underlying5 (by kernel_rfl) (by kernel_rfl)
  refine ⟨fun k hk => ?_, hs⟩
  have := hc k (by simpa using hk)
  rw [this]
  have : k = 0 ∨ k = 1 ∨ k = 2 ∨ k = 3 ∨ k = 4 ∨ k = 5 ∨ k = 6 := by omega
  rcases this with rfl | rfl | rfl | rfl | rfl | rfl | rfl <;> rfl

end Go.Proofs.YtlkoafnlklhaeaaDoor
