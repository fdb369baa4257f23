/- Joined texts: JoinMath, Split, SplitI, Join, GoodSh, SpecShards, Fill2. -/
import Derived.Test.YtfglkgeeelapgaaDoorBd13
import Derived.Test.YtfglkgeeelapgaaDoorBd12
import Derived.Test.YtfglkgeeelapgaaDoorBd02
import Derived.Lib.LazyBuf
import Derived.Lib.AppendStr
import Derived.Test.YtfglkgeeelapgaaDoorBd11
import Derived.Test.YtfglkgeeelapgaaDoorBd06
import Derived.Test.YtfglkgeeelapgaaDoorBd05
set_option linter.unusedSimpArgs false
set_option linter.unusedVariables false
/- Texts of one length: equallyLong and l3Texts; the mathematics of JoinShards. -/
namespace G294
open Go Go.RowKit
/-- texts of one length, at most 40 -/
def textsOk (L : List (List UInt8)) : Bool := L.all fun s => decide (s.length = (L.getD 0 []).length ∧ s.length ≤ 40)
theorem textsOk_iff (L : List (List UInt8)) : textsOk L = true ↔ ∀ i (h : i < L.length), L[i].length = (L.getD 0 []).length ∧ L[i].length ≤ 40 := by
  unfold textsOk
  rw [List.all_eq_true]
  constructor
  · intro h i hi
    simpa using h L[i] (List.getElem_mem hi)
  · intro h s hs
    obtain ⟨i, hi, rfl⟩ := List.getElem_of_mem hs
    simpa using h i hi
theorem textsOk_false {L : List (List UInt8)} {i : Nat} (hi : i < L.length) (h : ¬ (L[i].length = (L.getD 0 []).length ∧ L[i].length ≤ 40)) : textsOk L = false := by
  rw [Bool.eq_false_iff]
  intro ht
  exact h ((textsOk_iff L).1 ht i hi)
theorem flatten_const : ∀ (L : List (List UInt8)) (n : Nat), (∀ s ∈ L, s.length = n) → L.flatten.length = L.length * n
  | [], n, _ => by simp
  | a :: L, n, h => by
    have h1 := h a (by simp)
    have ih := flatten_const L n (fun s hs => h s (by simp [hs]))
    simp only [List.flatten_cons, List.length_append, List.length_cons, ih, h1]
    rw [Nat.add_mul]; omega
theorem textsOk_flatten {L : List (List UInt8)} (h : textsOk L = true) : L.flatten.length = L.length * (L.getD 0 []).length := by
  apply flatten_const
  intro s hs
  obtain ⟨i, hi, rfl⟩ := List.getElem_of_mem hs
  exact ((textsOk_iff L).1 h i hi).1
theorem textsOk_first {L : List (List UInt8)} (h : textsOk L = true) : (L.getD 0 []).length ≤ 40 := by
  cases L with
  | nil => simp
  | cons a L => have := ((textsOk_iff _).1 h 0 (by simp)).2; simpa using this
theorem flatten_take_succ (L : List (List UInt8)) (k : Nat) (hk : k < L.length) : (L.take (k + 1)).flatten = (L.take k).flatten ++ L[k] := by
  rw [List.take_succ_eq_append_getElem hk, List.flatten_append]; simp
theorem flatten_take_le (L : List (List UInt8)) (k : Nat) : (L.take k).flatten.length ≤ L.flatten.length := by
  have h : L.flatten = (L.take k).flatten ++ (L.drop k).flatten := by rw [← List.flatten_append, List.take_append_drop]
  rw [h]; simp
def joinOk (L : List (List UInt8)) (z : Int) : Bool := (dataOk L.length && textsOk L) && decide (0 ≤ z ∧ z ≤ L.flatten.length)
def joinR (L : List (List UInt8)) (z : Int) : List UInt8 := if joinOk L z then L.flatten.take z.toNat else []
end G294

/- SplitText: the model's and the program's. -/
namespace Go.Proofs.YtfglkgeeelapgaaDoor
open Go.RowKit G294

end Go.Proofs.YtfglkgeeelapgaaDoor

/- SplitText: the program's. -/
namespace G294
open Go Go.RowKit
theorem own_setCells {base g n cap : Nat} {e : TypeId} : ∀ (vs : List Value) (o : Nat) (w : World) (xs : List Value), w.ownsRow base e 1 (.slice (some ⟨g, 0, none⟩) n cap) n xs → o + vs.length ≤ n →
    (w.setCells g o vs).ownsRow base e 1 (.slice (some ⟨g, 0, none⟩) n cap) n (xs.take o ++ (vs ++ xs.drop (o + vs.length))) ∧ w.grownBy (w.setCells g o vs) (some g)
  | [], o, w, xs, h, hl => ⟨by simpa [World.setCells] using h, World.grownBy.refl _ _⟩
  | v :: r, o, w, xs, h, hl => by
    have hx : xs.length = n := by have := h.1; omega
    have hs := h.stored o v
    have ih := own_setCells r (o + 1) _ _ hs.1 (by simp at hl; omega)
    refine ⟨?_, hs.2.trans ih.2⟩
    have e : xs.take o ++ (v :: r ++ xs.drop (o + (v :: r).length)) = (xs.set o v).take (o + 1) ++ (r ++ (xs.set o v).drop (o + 1 + r.length)) := by
      have ho : o < xs.length := by simp at hl; omega
      rw [List.take_succ_eq_append_getElem (by simpa using ho)]
      simp only [List.getElem_set_self, List.take_set_of_le (Nat.le_refl o), List.append_assoc, List.cons_append, List.nil_append, List.length_cons]
      rw [List.drop_set_of_lt (by omega)]
      congr 4
      omega
    rw [e]
    exact ih.1
/-- copy(dst, s) of a text that is no longer than the row, onto a row of the call's own -/
theorem run_copy_str {P : Program} {w : World} (dT sT ty elem : TypeId) (hu : P.underlying dT = some (.slice elem)) (hsz : ∀ w, (Go.sizeOf elem).run P w = .ok 1 w)
    (base g n cap : Nat) (t : List UInt8) (xs : List Value) (hown : w.ownsRow base elem 1 (.slice (some ⟨g, 0, none⟩) n cap) n xs) (hle : t.length ≤ n) :
    ∃ w', (Builtin.copy_ #[dT, sT] ty #[.slice (some ⟨g, 0, none⟩) n cap, .string (str t)]).run P w = .ok (goInt t.length) w' ∧ w'.ownsRow base elem 1 (.slice (some ⟨g, 0, none⟩) n cap) n (bys t ++ xs.drop t.length) ∧ w.grownBy w' (some g) := by
  have hx : xs.length = n := by have := hown.1; omega
  have hrun := run_copy_string (P := P) w dT sT ty elem g 0 n cap (str t) hu hsz (by rw [str_size]; exact hle) (fun j hj => by
    rw [str_size] at hj
    rw [Nat.zero_add, hown.cellAt j (by omega), List.getElem?_eq_getElem (by omega)]; rfl) (fun j hj => by rw [Nat.zero_add]; exact hown.frozenAt j)
  have hst := own_setCells (bys t) 0 w xs hown (by simpa using hle)
  have hm : ((str t).data.toList.map fun x => Value.int .u8 (x.toNat : Int)) = bys t := by simp [str, bys]
  rw [hm, str_size] at hrun
  exact ⟨_, hrun, by simpa using hst.1, hst.2⟩
/-- a part of a row of bytes -/
theorem seen_part {E : TypeId} {w : World} {lo hi g n cap a z : Nat} {l : List UInt8} (h : OwnBytes E w lo hi (.slice (some ⟨g, 0, none⟩) n cap) l) (hl : l.length = n) (hc : cap ≤ maxLen) (hnc : n ≤ cap) (ha : a + z ≤ n) :
    Seen w (.slice (some ⟨g, a, none⟩) z (cap - a)) (bys ((l.drop a).take z)) := by
  have hlen : ((l.drop a).take z).length = z := by rw [List.length_take, List.length_drop]; omega
  refine ⟨_, cap - a, by rw [bys_length, hlen], by rw [bys_length, hlen]; omega, by omega, fun _ => ⟨g, a, rfl, (h.1.lt g rfl).2, fun i u hu => ?_⟩⟩
  have hi : i < ((l.drop a).take z).length := by have := (List.getElem?_eq_some_iff.1 hu).1; simpa using this
  rw [bys_get _ i hi] at hu
  rw [hlen] at hi
  have hc' := h.1.cells (g := g) rfl (a + i) _ (bys_get l (a + i) (by omega))
  rw [Addr.add_lit, Nat.zero_add] at hc'
  rw [hc', ← hu]
  simp
theorem seen_part0 {w : World} {A : Option Addr} {c : Nat} (hc : c ≤ maxLen) (l : List UInt8) (hl : l = []) : Seen w (.slice A 0 c) (bys l) := by
  subst hl
  exact ⟨A, c, rfl, Nat.zero_le _, hc, fun h => by simp at h⟩
end G294
namespace Go.Proofs.YtfglkgeeelapgaaDoor
open Go.RowKit G294

theorem sizeByte (w : World) : (Go.sizeOf 5).run Tryd.prog w = .ok 1 w := by
  obtain ⟨i0, hi0, hz0, hz1, hz2⟩ := info_parts infoByte
  simp [Go.sizeOf, typeInfo, hi0, hz1]

end Go.Proofs.YtfglkgeeelapgaaDoor

/- equallyLong, l3Texts; JoinShards: the model's and the program's. -/
namespace Go.Proofs.YtfglkgeeelapgaaDoor
open Go.RowKit G294

set_option maxRecDepth 100000 in
set_option maxHeartbeats 2000000 in
theorem equallyLong_any (v : Value) (L : List (List UInt8)) (w : World) (hv : Seen w v (strs L)) : Calls Tryd.prog 63 #[v] w fun e w' => e = .returned (.bool (textsOk L)) ∧ w = w' := by
  obtain ⟨A, c, rfl, hlc, hcm, hx⟩ := hv
  rw [strs_length] at hlc hx
  simp only [strs_length]
  unfold maxLen at hcm
  generalize hnn : L.length = n at *
  have HN := Lib.hid hnn
  clear hnn
  go_enter Tryd.func63, Tryd.ntmps63
  go_wp2_with fail
  go_loop [7] (fun i => ∃ k : Nat, k ≤ n ∧ i = .int .i64 k ∧ Hid (∀ i (h : i < L.length), i < k → L[i].length = (L.getD 0 []).length ∧ L[i].length ≤ 40)) (fun i => n - (intOf i).toNat)
  case atStart => exact ⟨0, Nat.zero_le _, rfl, fun i h h' => by omega⟩
  case round =>
    obtain ⟨k, hk, rfl, HE⟩ := hrel
    by_cases hlt : k < n
    · have hki : (k : Int) < (n : Int) := by omega
      have hkl : k < L.length := by rw [HN.out]; exact hlt
      obtain ⟨b, off, rfl, hbl, hcell⟩ := hx (by omega)
      have hcx := hcell k _ (strs_get L k hkl)
      have hc0 := hcell 0 _ (strs_get L 0 (by omega))
      rw [Nat.add_zero] at hc0
      have hsk := str_size L[k]
      have hs0 := str_size (L[0]'(by omega))
      have HG : Hid (L.getD 0 [] = L[0]'(by omega)) := by show _ = _; simp [List.getD, show 0 < L.length by omega]
      clear hcell hx
      by_cases h40 : L[k].length ≤ 40
      · by_cases heq : L[k].length = (L[0]'(by omega)).length
        · have HK : Hid (∀ i (h : i < L.length), i < k + 1 → L[i].length = (L.getD 0 []).length ∧ L[i].length ≤ 40) := fun i h h' => by
            rcases Nat.lt_or_ge i k with h2 | h2
            · exact HE.out i h h2
            · obtain rfl : i = k := by omega
              rw [HG.out]; exact ⟨heq, h40⟩
          generalize hnk : L[k].length = nk at *
          generalize hn0 : (L[0]'(by omega)).length = n0 at *
          subst heq
          have t1 : decide ((40 : Int) < (nk : Int)) = false := by simp; omega
          have t2 : ((nk : Int) != (nk : Int)) = false := by simp
          go_wp2_with fail
          go_round
          case rel => exact ⟨k + 1, by omega, by go_num, HK⟩
          case measure => simp [intOf]; omega
        · have HF : Hid (textsOk L = false) := textsOk_false hkl (by rw [HG.out]; omega)
          generalize hnk : L[k].length = nk at *
          generalize hn0 : (L[0]'(by omega)).length = n0 at *
          have t1 : decide ((40 : Int) < (nk : Int)) = false := by simp; omega
          have t2 : ((nk : Int) != (n0 : Int)) = true := by simp; omega
          go_wp2_with fail
          go_ret
          exact ⟨by rw [HF.out]; rfl, rfl⟩
      · have HF : Hid (textsOk L = false) := textsOk_false hkl (by omega)
        generalize hnk : L[k].length = nk at *
        have t1 : decide ((40 : Int) < (nk : Int)) = true := by simp; omega
        go_wp2_with fail
        go_ret
        exact ⟨by rw [HF.out]; rfl, rfl⟩
    · obtain rfl : k = n := by omega
      have hki : ¬ (k : Int) < (k : Int) := by omega
      have HF : Hid (textsOk L = true) := (textsOk_iff L).2 fun i h => HE.out i h (by rw [HN.out] at h; exact h)
      go_wp2_with fail
      go_ret
      exact ⟨by rw [HF.out]; rfl, rfl⟩

set_option maxRecDepth 100000 in
set_option maxHeartbeats 2000000 in
theorem l3Texts_any (v : Value) (L : List (List UInt8)) (w : World) (hv : Seen w v (strs L)) : Calls Tryd.prog 104 #[v] w fun e w' => e = .returned (.bool (textsOk L)) ∧ w = w' := by
  obtain ⟨A, c, rfl, hlc, hcm, hx⟩ := hv
  rw [strs_length] at hlc hx
  simp only [strs_length]
  unfold maxLen at hcm
  generalize hnn : L.length = n at *
  have HN := Lib.hid hnn
  clear hnn
  go_enter Tryd.func104, Tryd.ntmps104
  go_wp2_with fail
  go_loop [7] (fun i => ∃ k : Nat, k ≤ n ∧ i = .int .i64 k ∧ Hid (∀ i (h : i < L.length), i < k → L[i].length = (L.getD 0 []).length ∧ L[i].length ≤ 40)) (fun i => n - (intOf i).toNat)
  case atStart => exact ⟨0, Nat.zero_le _, rfl, fun i h h' => by omega⟩
  case round =>
    obtain ⟨k, hk, rfl, HE⟩ := hrel
    by_cases hlt : k < n
    · have hki : (k : Int) < (n : Int) := by omega
      have hkl : k < L.length := by rw [HN.out]; exact hlt
      obtain ⟨b, off, rfl, hbl, hcell⟩ := hx (by omega)
      have hcx := hcell k _ (strs_get L k hkl)
      have hc0 := hcell 0 _ (strs_get L 0 (by omega))
      rw [Nat.add_zero] at hc0
      have hsk := str_size L[k]
      have hs0 := str_size (L[0]'(by omega))
      have HG : Hid (L.getD 0 [] = L[0]'(by omega)) := by show _ = _; simp [List.getD, show 0 < L.length by omega]
      clear hcell hx
      by_cases heq : L[k].length = (L[0]'(by omega)).length
      · by_cases h40 : L[k].length ≤ 40
        · have HK : Hid (∀ i (h : i < L.length), i < k + 1 → L[i].length = (L.getD 0 []).length ∧ L[i].length ≤ 40) := fun i h h' => by
            rcases Nat.lt_or_ge i k with h2 | h2
            · exact HE.out i h h2
            · obtain rfl : i = k := by omega
              rw [HG.out]; exact ⟨heq, h40⟩
          generalize hnk : L[k].length = nk at *
          generalize hn0 : (L[0]'(by omega)).length = n0 at *
          subst heq
          have t1 : decide ((40 : Int) < (nk : Int)) = false := by simp; omega
          have t2 : ((nk : Int) != (nk : Int)) = false := by simp
          go_wp2_with fail
          go_round
          case rel => exact ⟨k + 1, by omega, by go_num, HK⟩
          case measure => simp [intOf]; omega
        · have HF : Hid (textsOk L = false) := textsOk_false hkl (by omega)
          generalize hnk : L[k].length = nk at *
          generalize hn0 : (L[0]'(by omega)).length = n0 at *
          subst heq
          have t1 : decide ((40 : Int) < (nk : Int)) = true := by simp; omega
          have t2 : ((nk : Int) != (nk : Int)) = false := by simp
          go_wp2_with fail
          go_ret
          exact ⟨by rw [HF.out]; rfl, rfl⟩
      · have HF : Hid (textsOk L = false) := textsOk_false hkl (by rw [HG.out]; omega)
        generalize hnk : L[k].length = nk at *
        generalize hn0 : (L[0]'(by omega)).length = n0 at *
        have t2 : ((nk : Int) != (n0 : Int)) = true := by simp; omega
        go_wp2_with fail
        go_ret
        exact ⟨by rw [HF.out]; rfl, rfl⟩
    · obtain rfl : k = n := by omega
      have hki : ¬ (k : Int) < (k : Int) := by omega
      have HF : Hid (textsOk L = true) := (textsOk_iff L).2 fun i h => HE.out i h (by rw [HN.out] at h; exact h)
      go_wp2_with fail
      go_ret
      exact ⟨by rw [HF.out]; rfl, rfl⟩

end Go.Proofs.YtfglkgeeelapgaaDoor

/- Valid shards: the program's goodShards, the model's l3Shards; the model's l3All. -/
namespace G294
open Go Go.RowKit
/-- the number of the last of the first k -/
def lastNo (l : List Sh) : Nat → Int
  | 0 => -1
  | k + 1 => (l.getD k (0, [])).1
/-- the numbers rise strictly from 0 on and stay below n -/
def risesN (n : Int) (l : List Sh) : Bool := (List.range l.length).all fun i => decide (lastNo l i < (l.getD i (0, [])).1 ∧ (l.getD i (0, [])).1 < n)
def shardsOk (l : List Sh) (n : Int) : Bool := risesN n l && textsOk (l.map (·.2))
theorem rises_at (n : Int) (l : List Sh) : risesN n l = true ↔ ∀ (i : Nat) (s : Sh), l[i]? = some s → lastNo l i < s.1 ∧ s.1 < n := by
  unfold risesN
  rw [List.all_eq_true]
  constructor
  · intro h i s hi
    have hl := (List.getElem?_eq_some_iff.1 hi).1
    have h3 := h i (List.mem_range.2 hl)
    rw [decide_eq_true_eq] at h3
    have e : l.getD i (0, []) = s := by simp [List.getD, hi]
    rw [e] at h3
    exact h3
  · intro h i hi
    have hl := List.mem_range.1 hi
    have e : l.getD i (0, []) = l[i] := by simp [List.getD, hl]
    rw [decide_eq_true_eq, e]
    exact h i l[i] (List.getElem?_eq_getElem hl)
theorem rises_false {n : Int} {l : List Sh} {i : Nat} {s : Sh} (hi : l[i]? = some s) (h : ¬ (lastNo l i < s.1 ∧ s.1 < n)) : risesN n l = false := by
  rw [Bool.eq_false_iff]
  intro ht
  exact h ((rises_at n l).1 ht i s hi)
theorem lastNo_succ {l : List Sh} {k : Nat} {s : Sh} (h : l[k]? = some s) : lastNo l (k + 1) = s.1 := by simp [lastNo, List.getD, h]
theorem all_ints (n : Nat) : (List.range (n + 1)).map (fun i : Nat => (i : Int)) = (List.range n).map (fun i : Nat => (i : Int)) ++ [(n : Int)] := by simp [List.range_succ]
end G294
namespace Go.Proofs.YtfglkgeeelapgaaDoor
open Go.RowKit G294

set_option maxRecDepth 100000 in
set_option maxHeartbeats 1000000 in
theorem l3All_own (n : Nat) (w : World) (hn : n ≤ 1000) : Calls Tryd.prog 82 #[.int .i64 n] w (RetInts 3 w ((List.range n).map fun i : Nat => (i : Int))) := by
  go_enter Tryd.func82, Tryd.ntmps82
  go_wp2_with fail
  go_loopw [3, 4] (fun o i wr => ∃ k : Nat, k ≤ n ∧ i = .int .i64 k ∧ wr.ownsRow w.heap.size 3 1 o k (ints ((List.range k).map fun i : Nat => (i : Int))) ∧ Below w.heap.size w wr)
    (fun _ i _ => n - (intOf i).toNat)
  case atStart => exact ⟨0, Nat.zero_le _, rfl, World.ownsRow_nil _ _ _ _, Below.refl _ _⟩
  case round =>
    obtain ⟨k, hk, rfl, hown, hb⟩ := hrel
    by_cases hlt : k < n
    · have hki : (k : Int) < (n : Int) := by omega
      have hbs := hb.size
      go_wp2_with (at_builtin; refine wpList_append1 rfl _ _ _ rfl w.heap.size 3 _ _ Tryd.underlying47 infoInt rfl _ k _ rfl (hown.alloc _) wr.heap.size (.int .i64 k) rfl ?c1 rfl ?c2 ?c3 ?c4 ?_)
      case c1 => simp
      case c2 => omega
      case c3 => omega
      case c4 => simp; omega
      intro v' w' hown' hg' _
      have hb' : Below w.heap.size w w' := below_append (hb.alloc hb.size _) (hown.alloc _) hg' (Nat.le_refl _) (by simp; omega)
      have hown2 : w'.ownsRow w.heap.size 3 1 v' (k + 1) (ints ((List.range (k + 1)).map fun i : Nat => (i : Int))) := by
        rw [all_ints, ints_append]; exact hown'
      clear hown' hg'
      go_wp2_with fail
      go_roundw
      case rel => exact ⟨k + 1, by omega, by go_num, hown2, hb'⟩
      case measure => simp [intOf]; omega
    · obtain rfl : k = n := by omega
      have hki : ¬ (k : Int) < (k : Int) := by omega
      go_wp2_with fail
      go_ret
      exact ⟨_, rfl, OwnInts.of_made (by simpa using hown), TurnIn.of_below hb⟩

end Go.Proofs.YtfglkgeeelapgaaDoor

/- Valid shards: the model's l3Shards. -/
namespace G294
open Go Go.RowKit
/-- what is asked of shard i -/
def shAt (l : List Sh) (n : Int) (i : Nat) (s : Sh) : Prop := (lastNo l i < s.1 ∧ s.1 < n) ∧ s.2.length = (l.getD 0 (0, [])).2.length ∧ s.2.length ≤ 40
theorem shardsOk_iff (l : List Sh) (n : Int) : shardsOk l n = true ↔ ∀ (i : Nat) (s : Sh), l[i]? = some s → shAt l n i s := by
  unfold shardsOk shAt
  rw [Bool.and_eq_true, rises_at, textsOk_iff]
  have e0 : ((l.map (·.2)).getD 0 []).length = (l.getD 0 (0, [])).2.length := by cases l <;> simp
  rw [e0]
  constructor
  · rintro ⟨h1, h2⟩ i s hi
    obtain ⟨hl, rfl⟩ := List.getElem?_eq_some_iff.1 hi
    have := h2 i (by simpa using hl)
    exact ⟨h1 i _ hi, by simpa using this⟩
  · intro h
    refine ⟨fun i s hi => (h i s hi).1, fun i hi => ?_⟩
    have hl : i < l.length := by simpa using hi
    have := (h i l[i] (List.getElem?_eq_getElem hl)).2
    simpa using this
theorem shardsOk_false {l : List Sh} {n : Int} {i : Nat} {s : Sh} (hi : l[i]? = some s) (h : ¬ shAt l n i s) : shardsOk l n = false := by
  rw [Bool.eq_false_iff]
  intro ht
  exact h ((shardsOk_iff l n).1 ht i s hi)
end G294
namespace Go.Proofs.YtfglkgeeelapgaaDoor
open Go.RowKit G294

end Go.Proofs.YtfglkgeeelapgaaDoor

/- What a function that fills a matrix keeps, wherever its variable lies. -/
namespace G294
open Go Go.RowKit
theorem RetMat.base {E EE : TypeId} {w w1 w' : World} {L : Mat} {e : Ending} (h : RetMat E EE w1 L e w') (hb : Below w.heap.size w w1) : RetMat E EE w L e w' := by
  obtain ⟨v, vs, he, h1, h2⟩ := h
  exact ⟨v, vs, he, h1.wider hb.size (Nat.le_refl _) (Nat.le_refl _), turn_of_below hb h2⟩
/-- rows, the variable (block B) that holds them, the variable of the result (block R), old memory -/
structure Fill2 (E EE : TypeId) (w wr : World) (R B : Nat) (v : Value) (L : Mat) (vs : List Value) : Prop where
  own : ∃ lo hi, OwnM E EE wr lo hi v L vs ∧ w.heap.size ≤ lo ∧ (R < lo ∨ hi ≤ R) ∧ (B < lo ∨ hi ≤ B)
  var : wr.cell? ⟨B, 0, none⟩ = some v
  res : wr.cell? ⟨R, 0, none⟩ = some (.slice none 0 0)
  resf : wr.frozen? ⟨R, 0, none⟩ = false
  old : Below w.heap.size w wr
  size : B < wr.heap.size ∧ R < wr.heap.size
  lo : w.heap.size ≤ B ∧ w.heap.size ≤ R
section
variable {E EE : TypeId} {w wr : World} {R B : Nat} {v : Value} {L L' : Mat} {vs : List Value}
theorem Fill2.drewN (h : Fill2 E EE w wr R B v L vs) (q : Nat) : Fill2 E EE w (wr.drewN q) R B v L vs := by
  obtain ⟨lo, hi, h1, h2⟩ := h.own
  exact ⟨⟨lo, hi, h1.drewN q, h2⟩, h.var, h.res, h.resf, below_drewN h.old q, h.size, h.lo⟩
theorem Fill2.congr (h : Fill2 E EE w wr R B v L vs) (e : L = L') : Fill2 E EE w wr R B v L' vs := e ▸ h
theorem Fill2.storeF {r c k j bb m cap' : Nat} {F : Ents} {x : UInt8} (h : Fill2 E EE w wr R B v (mkM r c F) vs) (hk : k < r) (hu : vs[k]? = some (.slice (some ⟨bb, 0, none⟩) m cap')) :
    Fill2 E EE w (wr.setCell ⟨bb, j, none⟩ (.int .u8 (x.toNat : Int))) R B v (mkM r c fun i jj => if i = k ∧ jj = j then x else F i jj) vs := by
  obtain ⟨lo, hi, h1, h2, h3, h4⟩ := h.own
  have ho := h1.rows k _ hu
  have e1 := (ho.1.lt bb rfl).1
  have e2 := ho.2.2 bb rfl
  exact ⟨⟨lo, hi, h1.storeF hk hu, h2, h3, h4⟩, (cell_set_other wr _ _ _ (by omega)).trans h.var, (cell_set_other wr _ _ _ (by omega)).trans h.res, (frozen_set_other wr _ _ _ (by omega)).trans h.resf, h.old.setCell (show w.heap.size ≤ bb by omega) _, by simpa using h.size, h.lo⟩
theorem Fill2.rowF {r c : Nat} {F : Ents} (h : Fill2 E EE w wr R B v (mkM r c F) vs) (k : Nat) (hk : k < r) (hc : 0 < c) : ∃ bb cp, vs[k]? = some (.slice (some ⟨bb, 0, none⟩) c cp) ∧ w.heap.size ≤ bb ∧ bb < wr.heap.size ∧ bb ≠ R ∧ bb ≠ B ∧ v.ownBlock ≠ some bb ∧ c ≤ cp ∧ cp ≤ maxLen ∧
    (∀ j, wr.frozen? ⟨bb, j, none⟩ = false) ∧ ∀ j, j < c → wr.cell? ⟨bb, j, none⟩ = some (.int .u8 ((F k j).toNat : Int)) := by
  obtain ⟨lo, hi, h1, h2, h3, h4⟩ := h.own
  obtain ⟨bb, cp, a1, a2, a3, a4, a5, a6, a7, a8⟩ := h1.rowF k hk hc
  have := h1.top
  exact ⟨bb, cp, a1, by omega, by omega, by omega, by omega, a4, a5, a6, a7, a8⟩
theorem Fill2.cellAt {g n cap k : Nat} {u : Value} (h : Fill2 E EE w wr R B (.slice (some ⟨g, 0, none⟩) n cap) L vs) (hk : vs[k]? = some u) : wr.cell? ⟨g, k, none⟩ = some u := by
  obtain ⟨lo, hi, h1, _⟩ := h.own
  exact h1.cellAt hk
theorem Fill2.vblock {g n cap : Nat} (h : Fill2 E EE w wr R B (.slice (some ⟨g, 0, none⟩) n cap) L vs) : w.heap.size ≤ g ∧ g ≠ R ∧ g ≠ B := by
  obtain ⟨lo, hi, h1, h2, h3, h4⟩ := h.own
  have e1 := (h1.row.lt g rfl).1
  have e2 := h1.out g rfl
  exact ⟨by omega, by omega, by omega⟩
/-- the variable is made behind the rows -/
theorem Fill2.late {w1 w2 : World} {t : TypeId} {lo : Nat} (hw2 : w2 = w1.alloc (.cells #[v] t)) (hM : OwnM E EE w1 lo w1.heap.size v L vs) (hlo : w.heap.size ≤ lo) (hR : R < lo ∧ w.heap.size ≤ R) (hc : w1.cell? ⟨R, 0, none⟩ = some (.slice none 0 0)) (hf : w1.frozen? ⟨R, 0, none⟩ = false)
    (hb : Below w.heap.size w w1) (hs : R < w1.heap.size) : Fill2 E EE w w2 R w1.heap.size v L vs := by
  subst hw2
  have kA : TurnIn 0 0 w1 (w1.alloc (.cells #[v] t)) := TurnIn.of_below ((Below.refl _ _).alloc (Nat.le_refl _) _)
  have hbs := hb.size
  exact ⟨⟨lo, w1.heap.size, hM.keep kA (by omega), hlo, by omega, by omega⟩, by simp, cell_turn kA hc hs, frozen_turn kA hf hs, hb.alloc (by omega) _, ⟨by simp, by simp; omega⟩, ⟨hbs, hR.2⟩⟩
/-- the variable was made ahead of the rows -/
theorem Fill2.early {w1 : World} {lo : Nat} (hM : OwnM E EE w1 lo w1.heap.size v L vs) (hlo : w.heap.size ≤ lo) (hR : R < lo ∧ w.heap.size ≤ R) (hB : B < lo ∧ w.heap.size ≤ B) (hne : B ≠ R) (hv : w1.cell? ⟨B, 0, none⟩ = some (.slice none 0 0)) (hc : w1.cell? ⟨R, 0, none⟩ = some (.slice none 0 0)) (hf : w1.frozen? ⟨R, 0, none⟩ = false)
    (hb : Below w.heap.size w w1) (hs : R < w1.heap.size ∧ B < w1.heap.size) : Fill2 E EE w (w1.setCell ⟨B, 0, none⟩ v) R B v L vs := by
  have kA := turn_setCell w1 B 0 v
  exact ⟨⟨lo, w1.heap.size, hM.keep kA (by omega), hlo, by omega, by omega⟩, World.cell?_setCell_same _ _ _ hv, (cell_set_other w1 _ _ _ hne).trans hc, (frozen_set_other w1 _ _ _ hne).trans hf, hb.setCell hB.2 _, ⟨by simpa using hs.2, by simpa using hs.1⟩, ⟨hB.2, hR.2⟩⟩
/-- the rows are stored into the result -/
theorem Fill2.finish (h : Fill2 E EE w wr R B v L vs) : RetMat E EE w L (.returned (.agg #[v])) (wr.setCell ⟨R, 0, none⟩ v) := by
  obtain ⟨lo, hi, h1, h2, h3, _⟩ := h.own
  have kk := turn_setCell wr R 0 v
  exact ⟨v, vs, rfl, (h1.keep kk (by omega)).wider h2 (by have := h1.top; simp; omega) (by simp), TurnIn.of_below (h.old.setCell h.lo.2 _)⟩
end
end G294
