/- Joined texts: MatI2, SameBytes, StrMem, ShardMem, MarkText, StrWalks, ShardWalks. -/
import Derived.Test.YtlkoafnlklhaeaaDoorBd09
import Derived.Test.YtlkoafnlklhaeaaDoorBd03
import Derived.Test.YtlkoafnlklhaeaaDoorProg
import Derived.Laws.BytesArg
import Derived.Test.YtlkoafnlklhaeaaDoorBd01
import Derived.Test.YtlkoafnlklhaeaaDoorBd02
import Derived.Laws.Concat
import Derived.Deep.RegionHeld3
import Derived.Test.YtlkoafnlklhaeaaDoorBd04
set_option linter.unusedSimpArgs false
set_option linter.unusedVariables false
/- The program's RankOf and InverseOf. -/
namespace G294
theorem int_beq (a b : Nat) : ((a : Int) == (b : Int)) = decide (a = b) := by
  by_cases h : a = b
  · subst h; simp
  · rw [decide_eq_false h, beq_eq_false_iff_ne]; omega
end G294
namespace Go.Proofs.YtlkoafnlklhaeaaDoor
open Go.RowKit G294

set_option maxRecDepth 100000 in
set_option maxHeartbeats 1000000 in
theorem squareMatrix_any (v : Value) (L : Mat) (w : World) (hs : SeenM w v L) : Calls Tryd.prog 151 #[.agg #[v]] w (RetBool w (squareM L)) := by
  have k1 : TurnIn 0 0 w (w.alloc (.cells #[v] 70)) := turn_alloc _ _
  have q1 : (w.alloc (.cells #[v] 70)).cell? ⟨w.heap.size, 0, none⟩ = some v := by simp
  have z1 : (w.alloc (.cells #[v] 70)).heap.size = w.heap.size + 1 := by simp
  have HS := Lib.hid (hs.touch k1)
  obtain ⟨A, cp, rfl, hlc, hcm⟩ := hs.len
  unfold maxLen at hcm
  have K1 := Lib.hid k1
  have Z1 := Lib.hid z1
  by_cases hg : goodM L = true
  · have HG := Lib.hid hg
    obtain ⟨g1, g2, g3, g4, _⟩ := (goodM_iff L).1 hg
    obtain ⟨bb, off, c9, A0, c0, hvv, _, hbb, hrow0, hl2, _⟩ := (show SeenM w (.slice A L.length cp) (mkM L.length (wid L) (ent L)) from (good_eq hg) ▸ hs).rowF 0 (by omega)
    simp only [Value.slice.injEq] at hvv
    obtain ⟨rfl, z9, rfl⟩ := hvv
    clear z9
    rw [Nat.add_zero] at hrow0
    have q2 := cell_turn k1 hrow0 hbb
    have hpos : 0 < L.length := g1
    have HSQ : Hid (squareM L = decide (L.length = wid L)) := by show squareM L = _; unfold squareM; rw [hg]; rfl
    unfold maxLen at hl2
    clear hg hs k1 hrow0 z1
    go_enter Tryd.func151, Tryd.ntmps151
    go_wp2_with fail
    generalize (w.alloc (.cells #[.slice (some ⟨bb, off, none⟩) L.length cp] 70)) = w1 at *
    go_region_held3 (fun w' => w'.cell? ⟨w.heap.size, 0, none⟩ = some (.slice (some ⟨bb, off, none⟩) L.length cp) ∧ w'.cell? ⟨bb, off, none⟩ = some (.slice A0 (wid L) c0))
      (first | exact ⟨q1, q2⟩ | exact ⟨y1, y2⟩)
      ((go_at_call 177; refine (igood_any _ L w1.drew HS.out).mono ?_; rintro e w2 ⟨rfl, ht⟩; rw [HG.out]; have z1 := Z1.out; have y1 := cell_turn ht (show w1.drew.cell? _ = _ from q1) (show _ < w1.heap.size by omega); have y2 := cell_turn ht (show w1.drew.cell? _ = _ from q2) (show _ < w1.heap.size by omega); clear z1))
    all_goals
      go_wp2_with fail
      go_ret
      exact ⟨by rw [HSQ.out, ← int_beq]; rfl, turn_of_below K1.out.to_below.drew ht⟩
  · have HG : Hid (goodM L = false) := by show goodM L = false; simpa using hg
    have HSQ : Hid (squareM L = false) := by show squareM L = false; unfold squareM; rw [HG.out]; rfl
    clear hg hs k1 z1
    go_enter Tryd.func151, Tryd.ntmps151
    go_wp2_with fail
    generalize (w.alloc (.cells #[.slice A L.length cp] 70)) = w1 at *
    have hz1 := Z1.out
    have hcc := grew_cell q1 (by omega)
    have HGG := Lib.hid (fun p : Grew w1 => HG.out ▸ grew_bool (igood_any _ L p.at_ (HS.out.below p.old)))
    clear q1 hz1
    refine wp_region_grew (by kernel_rfl) (by kernel_rfl) ?_
    repeat (first | go_big_quiet_skip | quiet_step ((go_at_call 177; exact HGG.out _)))
    refine wpQuiet_nil ?_
    rintro _ ⟨p, rfl⟩
    go_wp2_with fail
    go_ret
    exact ⟨by rw [HSQ.out]; rfl, turn_of_below K1.out.to_below (TurnIn.of_below p.old)⟩

set_option maxRecDepth 100000 in
set_option maxHeartbeats 1000000 in
theorem rankOf_own (v : Value) (L : Mat) (w : World) (hs : SeenM w v L) (htab : Tab w) (h0 : 1 < w.heap.size) : Calls Tryd.prog 136 #[.agg #[v]] w (RetIntOk w (rankR L) (goodM L)) := by
  have k1 : TurnIn 0 0 w (w.alloc (.cells #[v] 70)) := turn_alloc _ _
  have q1 : (w.alloc (.cells #[v] 70)).cell? ⟨w.heap.size, 0, none⟩ = some v := by simp
  have z1 : (w.alloc (.cells #[v] 70)).heap.size = w.heap.size + 1 := by simp
  have HS := Lib.hid (hs.touch k1)
  obtain ⟨A, cp, rfl, hlc, hcm⟩ := hs.len
  unfold maxLen at hcm
  have K1 := Lib.hid k1
  have Z1 := Lib.hid z1
  have HT := Lib.hid (htab.below k1.to_below h0)
  by_cases hg : goodM L = true
  · have HG := Lib.hid hg
    have HLE := Lib.hid (good_eq hg)
    obtain ⟨g1, g2, g3, g4, _⟩ := (goodM_iff L).1 hg
    obtain ⟨bb, off, c9, A0, c0, hvv, _, hbb, hrow0, hl2, _⟩ := (show SeenM w (.slice A L.length cp) (mkM L.length (wid L) (ent L)) from (good_eq hg) ▸ hs).rowF 0 (by omega)
    simp only [Value.slice.injEq] at hvv
    obtain ⟨rfl, z9, rfl⟩ := hvv
    clear z9
    rw [Nat.add_zero] at hrow0
    have q2 := cell_turn k1 hrow0 hbb
    have hpos : 0 < L.length := g1
    have HR : Hid (rankR L = (est (ent L) L.length (wid L)).2) := if_pos hg
    unfold maxLen at hl2
    clear hg hs k1 hrow0 htab
    go_enter Tryd.func136, Tryd.ntmps136
    go_wp2_with fail
    generalize (w.alloc (.cells #[.slice (some ⟨bb, off, none⟩) L.length cp] 70)) = w1 at *
    refine (igood_any _ L w1 HS.out).mono ?_
    rintro e w2 ⟨rfl, ht⟩
    rw [HG.out]
    have y1 := cell_turn ht q1 (by omega)
    have y2 := cell_turn ht q2 (by omega)
    have s2 := ht.size
    have HS2 := Lib.hid (HS.out.touch ht)
    have K2 := Lib.hid (turn_trans K1.out ht (by omega))
    have HT2 := Lib.hid (HT.out.below ht.to_below (by omega))
    have hz2 : w.heap.size + 1 ≤ w2.heap.size := by omega
    clear ht q1 q2 z1
    go_wp2_with fail
    go_region_held3 (fun w' => w'.cell? ⟨w.heap.size, 0, none⟩ = some (.slice (some ⟨bb, off, none⟩) L.length cp) ∧ w'.cell? ⟨bb, off, none⟩ = some (.slice A0 (wid L) c0))
      (first | exact ⟨y1, y2⟩ | exact ⟨x1, x2⟩ | exact ⟨u1, u2⟩)
      (first
        | (go_at_call 155; refine (fieldGrid_own L.length (wid L) (ent L) _ w2.drew (HLE.out ▸ HS2.out) g1 (by omega) (by omega)).mono ?_; rintro e w3 ⟨v3, vs3, rfl, hM3, ht3⟩; have x1 := cell_turn ht3 (show w2.drew.cell? _ = _ from y1) (show _ < w2.heap.size by omega); have x2 := cell_turn ht3 (show w2.drew.cell? _ = _ from y2) (show _ < w2.heap.size by omega); have s3 : w2.heap.size ≤ w3.heap.size := ht3.size)
        | (go_at_call 178; refine (eliminate_any L.length (wid L) (wid L) _ _ (ent L) v3 vs3 w3 hM3 g1 (Nat.le_refl _) (by omega) (by omega) (HT2.out.below (show Below w2.heap.size w2 w3 from ⟨ht3.os, ht3.tape, ht3.output, ht3.size, fun k hk => ht3.block k hk (by omega)⟩) (by omega)) (show _ < w2.heap.size by omega)).mono ?_; rintro e w4 ⟨vs4, rfl, hM4, hK4⟩; have u1 := (World.cell?_of_block (hK4.block w.heap.size (by omega) (Or.inl (show _ < w2.heap.size by omega)))).trans x1; have u2 := (World.cell?_of_block (hK4.block bb (by omega) (Or.inl (show _ < w2.heap.size by omega)))).trans x2))
    go_wp2_with fail
    go_ret2
    have t3 : TurnIn 0 0 w w3 := turn_trans K2.out (⟨ht3.os, ht3.tape, ht3.output, ht3.size, ht3.block⟩ : TurnIn 0 0 w2 w3) (by omega)
    exact ⟨by rw [HR.out, HG.out]; rfl, turn_trans t3 hK4 (Or.inr (Or.inl (show w.heap.size ≤ w2.heap.size by omega)))⟩
  · have HG : Hid (goodM L = false) := by show goodM L = false; simpa using hg
    have HR : Hid (rankR L = 0) := if_neg hg
    clear hg hs k1 htab z1
    go_enter Tryd.func136, Tryd.ntmps136
    go_wp2_with fail
    refine (igood_any _ L _ HS.out).mono ?_
    rintro e w2 ⟨rfl, ht⟩
    rw [HG.out]
    go_wp2_with fail
    go_ret2
    exact ⟨by rw [HR.out, HG.out]; rfl, turn_of_below K1.out.to_below ht⟩
end Go.Proofs.YtlkoafnlklhaeaaDoor

/- Contracts of the laws' own helpers: sameBytes, numberOf. -/
namespace G294
open Go Go.RowKit
/-- bytes as a string's bytes -/
def str (l : List UInt8) : ByteArray := ⟨l.toArray⟩
theorem run_string_seen {P : Program} {w : World} {v : Value} {l : List UInt8} (src e dst : TypeId) (hs : P.underlying src = some (.slice e)) (he : P.underlying e = some (.int .u8)) (hd : P.underlying dst = some .string)
    (hv : Seen w v (bys l)) : (convert src dst v).run P w = .ok (.string (str l)) w := by
  obtain ⟨A, c, rfl, hlc, hcm, hx⟩ := hv
  rw [bys_length] at hx ⊢
  cases hl : l with
  | nil =>
    simp only [List.length_nil]
    cases A with
    | none => exact run_convert_bytes_nil w src e hs he 0 c dst hd
    | some a =>
      rw [run_convert_bytes_string w src dst e _ 0 c hs he hd, run_bytesToString w a 0 c [] (by simp [loadCells, loadCellsFrom])]
      rfl
  | cons x r =>
    rw [← hl]
    obtain ⟨b, off, rfl, hb, hc⟩ := hx (by rw [hl]; simp)
    have h := run_convert_bytes_arg (P := P) w src e hs he b off l.length c (l.map fun x => (x.toNat : Int)) (by simp) (fun i hi => by
      rw [hc i _ (bys_get l i hi)]; simp [List.getD, hi]) dst hd
    rw [h]
    congr 2
    simp [strOfNums, str]
    apply List.ext_getElem
    · simp
    · intro i h1 h2
      simp
theorem str_toList (l : List UInt8) : (str l).toList = l := ByteArray.toList_mk l
end G294
namespace Go.Proofs.YtlkoafnlklhaeaaDoor
open Go.RowKit G294

end Go.Proofs.YtlkoafnlklhaeaaDoor

/- Texts in memory: a slice of strings that is seen, or of the call's own; the texts that a mark writes. -/
namespace G294
open Go Go.RowKit
theorem str_size (l : List UInt8) : (str l).size = l.length := by
  show l.toArray.size = _
  simp
theorem str_eq (s : ByteArray) : s = str s.data.toList := by cases s; rfl
theorem str_inj {a b : List UInt8} (h : str a = str b) : a = b := by
  have := congrArg ByteArray.toList h
  rwa [str_toList, str_toList] at this
theorem str_append (a b : List UInt8) : str a ++ str b = str (a ++ b) := by
  unfold str
  rw [ByteArray.mk_append_mk]
theorem str_nil : str [] = ⟨#[]⟩ := rfl
theorem str_same (s : List UInt8) : ((str s).toList == (str s).toList) = true := by simp
/-- texts as the cells of memory -/
def strs (l : List (List UInt8)) : List Value := l.map fun s => .string (str s)
@[simp] theorem strs_length (l : List (List UInt8)) : (strs l).length = l.length := by simp [strs]
theorem strs_append (l m : List (List UInt8)) : strs (l ++ m) = strs l ++ strs m := by simp [strs]
theorem strs_get (l : List (List UInt8)) (i : Nat) (h : i < l.length) : (strs l)[i]? = some (.string (str l[i])) := by simp [strs, h]
theorem strs_oneC (l : List (List UInt8)) : ∀ y, y ∈ strs l → y.oneCell' = true := by
  intro y hy
  simp only [strs, List.mem_map] at hy
  obtain ⟨x, _, rfl⟩ := hy
  rfl
/-- a row of texts of the call's own, its block from lo to hi -/
def OwnStrs (E : TypeId) (w : World) (lo hi : Nat) (v : Value) (l : List (List UInt8)) : Prop := w.ownsRow lo E 1 v l.length (strs l) ∧ hi ≤ w.heap.size ∧ ∀ g, v.ownBlock = some g → g < hi
section
variable {w w' : World} {lo hi a b : Nat} {v : Value} {l : List (List UInt8)} {E : TypeId}
theorem OwnStrs.keep (h : OwnStrs E w lo hi v l) (t : TurnIn a b w w') (d : hi ≤ a ∨ b ≤ lo) : OwnStrs E w' lo hi v l := by
  obtain ⟨h1, h2, h3⟩ := h
  have hs := t.size
  refine ⟨⟨h1.1, ?_⟩, by omega, h3⟩
  rcases h1.2 with hn | ⟨g, cap, cur, rfl, hbg, hg, rest⟩
  · exact .inl hn
  · refine .inr ⟨g, cap, cur, rfl, hbg, ?_, rest⟩
    have := h3 g rfl
    rw [t.block g (Array.getElem?_eq_some_iff.1 hg).1 (by omega)]
    exact hg
theorem OwnStrs.seen (h : OwnStrs E w lo hi v l) : Seen w v (strs l) := Seen.of_own h.1
theorem OwnStrs.nil (E : TypeId) (w : World) (lo : Nat) : OwnStrs E w lo w.heap.size (.slice none 0 0) [] := ⟨World.ownsRow_nil _ _ _ _, Nat.le_refl _, fun g h => by simp [Value.ownBlock] at h⟩
theorem OwnStrs.of_made (h : w'.ownsRow w.heap.size E 1 v l.length (strs l)) : OwnStrs E w' w.heap.size w'.heap.size v l := ⟨h, Nat.le_refl _, fun g hg => (h.lt g hg).2⟩
theorem OwnStrs.isSlice (h : OwnStrs E w lo hi v l) : ∃ A n c, v = .slice A n c := by
  rcases h.1.2 with ⟨hh, _⟩ | ⟨g, cap, cur, hh, _⟩ <;> exact ⟨_, _, _, hh⟩
theorem owns_turn0 {size n : Nat} {xs : List Value} {base : Nat} {e : TypeId} (h : w.ownsRow base e size v n xs) (t : TurnIn 0 0 w w') : w'.ownsRow base e size v n xs := own_below h t.to_below
end
def RetStrs (E : TypeId) (w : World) (l : List (List UInt8)) (e : Ending) (w' : World) : Prop := ∃ v, e = .returned v ∧ OwnStrs E w' w.heap.size w'.heap.size v l ∧ TurnIn 0 0 w w'
def RetStrsOk (E : TypeId) (w : World) (l : List (List UInt8)) (ok : Bool) (e : Ending) (w' : World) : Prop := ∃ v, e = .returned (.tuple #[v, .bool ok]) ∧ OwnStrs E w' w.heap.size w'.heap.size v l ∧ TurnIn 0 0 w w'
def RetStr (w : World) (s : List UInt8) (e : Ending) (w' : World) : Prop := e = .returned (.string (str s)) ∧ TurnIn 0 0 w w'
def RetStrOk (w : World) (s : List UInt8) (ok : Bool) (e : Ending) (w' : World) : Prop := e = .returned (.tuple #[.string (str s), .bool ok]) ∧ TurnIn 0 0 w w'
/-- what is left of a bound -/
def szV (left n : Nat) : Int := if n ≤ left then (left : Int) - n else -1
theorem szV_yes {left n : Nat} (h : n ≤ left) : szV left n = ((left - n : Nat) : Int) := by unfold szV; rw [if_pos h]; omega
theorem szV_no {left n : Nat} (h : left < n) : szV left n = -1 := by unfold szV; rw [if_neg (by omega)]
/-- the decimal digits of k, ahead of acc -/
def mdig (k : Nat) (acc : List UInt8) : List UInt8 := if h : k = 0 then acc else mdig (k / 10) (UInt8.ofNat (48 + k % 10) :: acc)
termination_by k
decreasing_by omega
def mtext (k : Nat) : List UInt8 := 109 :: mdig k []
theorem mdig_zero (acc : List UInt8) : mdig 0 acc = acc := by unfold mdig; simp
theorem mdig_pos {k : Nat} (h : 0 < k) (acc : List UInt8) : mdig k acc = mdig (k / 10) (UInt8.ofNat (48 + k % 10) :: acc) := by
  rw [mdig, dif_neg (by omega)]
/-- the texts of the marks k, k + 1, .. -/
def marksS (k n : Nat) : List (List UInt8) := (List.range n).map fun i => mtext (k + i)
@[simp] theorem marksS_length (k n : Nat) : (marksS k n).length = n := by simp [marksS]
theorem marksS_get (k n i : Nat) (h : i < n) : (strs (marksS k n))[i]? = some (.string (str (mtext (k + i)))) := by simp [strs, marksS, h]
def RetMarkS (E : TypeId) (w : World) (lo hi : Nat) (v : Value) (k n : Nat) (e : Ending) (w' : World) : Prop :=
  e = .returned (.int .i64 ((k + n : Nat) : Int)) ∧ OwnStrs E w' lo hi v (marksS k n) ∧ TurnIn lo hi w w'
end G294

/- Shards in memory: a slice of structs of an int and a string that is seen, or of the call's own; what a mark writes. -/
namespace G294
open Go Go.RowKit
abbrev Sh := Int × List UInt8
/-- shards as the cells of memory -/
def shs : List Sh → List Value
  | [] => []
  | s :: l => .int .i64 s.1 :: .string (str s.2) :: shs l
@[simp] theorem shs_length (l : List Sh) : (shs l).length = l.length * 2 := by
  induction l with
  | nil => rfl
  | cons s l ih => simp [shs, ih]; omega
theorem shs_append (l m : List Sh) : shs (l ++ m) = shs l ++ shs m := by
  induction l with
  | nil => rfl
  | cons s l ih => simp [shs, ih]
theorem shs_no (l : List Sh) (i : Nat) (h : i < l.length) : (shs l)[i * 2]? = some (.int .i64 l[i].1) := by
  induction l generalizing i with
  | nil => simp at h
  | cons s l ih =>
    cases i with
    | zero => rfl
    | succ i => rw [show (i + 1) * 2 = i * 2 + 1 + 1 by omega]; simpa [shs] using ih i (by simpa using h)
theorem shs_data (l : List Sh) (i : Nat) (h : i < l.length) : (shs l)[i * 2 + 1]? = some (.string (str l[i].2)) := by
  induction l generalizing i with
  | nil => simp at h
  | cons s l ih =>
    cases i with
    | zero => rfl
    | succ i => rw [show (i + 1) * 2 + 1 = i * 2 + 1 + 1 + 1 by omega]; simpa [shs] using ih i (by simpa using h)
theorem shs_oneC (l : List Sh) : ∀ y, y ∈ shs l → y.oneCell' = true := by
  induction l with
  | nil => intro y hy; simp [shs] at hy
  | cons s l ih =>
    intro y hy
    simp only [shs, List.mem_cons] at hy
    rcases hy with rfl | rfl | hy
    · rfl
    · rfl
    · exact ih y hy
theorem shs_set (l : List Sh) (i : Nat) (x : Sh) (h : i < l.length) : ((shs l).set (i * 2) (.int .i64 x.1)).set (i * 2 + 1) (.string (str x.2)) = shs (l.set i x) := by
  induction l generalizing i with
  | nil => simp at h
  | cons s l ih =>
    cases i with
    | zero => rfl
    | succ i =>
      rw [show (i + 1) * 2 = i * 2 + 1 + 1 by omega]
      simp only [shs, List.set_cons_succ, ih i (by simpa using h)]
/-- the value v is seen in w as the shards l -/
def SeenH (w : World) (v : Value) (l : List Sh) : Prop :=
  ∃ A c, v = .slice A l.length c ∧ l.length ≤ c ∧ c ≤ maxLen ∧ (0 < l.length → ∃ b off, A = some ⟨b, off, none⟩ ∧ b < w.heap.size ∧ ∀ i s, l[i]? = some s → w.cell? ⟨b, off + i * 2, none⟩ = some (.int .i64 s.1) ∧ w.cell? ⟨b, off + i * 2 + 1, none⟩ = some (.string (str s.2)))
theorem at_lt {α : Type} {l : List α} {n k : Nat} (hn : l.length = n) (h : k < n) : ∃ s, l[k]? = some s := ⟨_, List.getElem?_eq_getElem (by omega)⟩
/-- a row of shards of the call's own, its block from lo to hi -/
def OwnSh (E : TypeId) (w : World) (lo hi : Nat) (v : Value) (l : List Sh) : Prop := w.ownsRow lo E 2 v l.length (shs l) ∧ hi ≤ w.heap.size ∧ ∀ g, v.ownBlock = some g → g < hi
section
variable {w w' : World} {lo hi a b : Nat} {v : Value} {l : List Sh} {E : TypeId}
theorem SeenH.below (h : SeenH w v l) (hb : Below w.heap.size w w') : SeenH w' v l := by
  obtain ⟨A, c, rfl, h1, h2, h3⟩ := h
  refine ⟨A, c, rfl, h1, h2, fun hn => ?_⟩
  obtain ⟨b, off, rfl, hb', hc⟩ := h3 hn
  exact ⟨b, off, rfl, Nat.lt_of_lt_of_le hb' hb.size, fun i s hi => ⟨(hb.cell (p := ⟨b, off + i * 2, none⟩) hb').trans (hc i s hi).1, (hb.cell (p := ⟨b, off + i * 2 + 1, none⟩) hb').trans (hc i s hi).2⟩⟩
theorem SeenH.len (h : SeenH w v l) : ∃ A c, v = .slice A l.length c := by
  obtain ⟨A, c, h, _⟩ := h
  exact ⟨A, c, h⟩
theorem SeenH.nil (w : World) : SeenH w (.slice none 0 0) [] := ⟨none, 0, rfl, Nat.le_refl _, Nat.zero_le _, fun h => by simp at h⟩
theorem owns_turn2 {size n : Nat} {xs : List Value} (h : w.ownsRow lo E size v n xs) (h2 : ∀ g, v.ownBlock = some g → g < hi) (t : TurnIn a b w w') (d : hi ≤ a ∨ b ≤ lo) : w'.ownsRow lo E size v n xs := by
  refine ⟨h.1, ?_⟩
  rcases h.2 with hn | ⟨g, cap, cur, rfl, hbg, hg, rest⟩
  · exact .inl hn
  · refine .inr ⟨g, cap, cur, rfl, hbg, ?_, rest⟩
    have := h2 g rfl
    rw [t.block g (Array.getElem?_eq_some_iff.1 hg).1 (by omega)]
    exact hg
theorem OwnSh.keep (h : OwnSh E w lo hi v l) (t : TurnIn a b w w') (d : hi ≤ a ∨ b ≤ lo) : OwnSh E w' lo hi v l :=
  ⟨owns_turn2 h.1 h.2.2 t d, Nat.le_trans h.2.1 t.size, h.2.2⟩
theorem OwnSh.seen (h : OwnSh E w lo hi v l) : SeenH w v l := by
  obtain ⟨h1, h2, h3⟩ := h
  rcases h1.2 with ⟨rfl, hn⟩ | ⟨g, cap, cur, rfl, hb, hg, hnc, hcm, hcs, ht⟩
  · have : l = [] := List.eq_nil_of_length_eq_zero hn
    subst this
    exact SeenH.nil w
  · refine ⟨_, cap, rfl, hnc, hcm, fun hn => ⟨g, 0, rfl, (Array.getElem?_eq_some_iff.1 hg).1, fun i s hs => ?_⟩⟩
    obtain ⟨hi, rfl⟩ := List.getElem?_eq_some_iff.1 hs
    have e1 := h1.cells (g := g) rfl (i * 2) _ (shs_no l i hi)
    have e2 := h1.cells (g := g) rfl (i * 2 + 1) _ (shs_data l i hi)
    rw [Addr.add_lit, Nat.zero_add] at e1 e2
    exact ⟨by rw [Nat.zero_add]; exact e1, by rw [Nat.zero_add]; exact e2⟩
theorem OwnSh.nil (E : TypeId) (w : World) (lo : Nat) : OwnSh E w lo w.heap.size (.slice none 0 0) [] := ⟨World.ownsRow_nil _ _ _ _, Nat.le_refl _, fun g h => by simp [Value.ownBlock] at h⟩
theorem OwnSh.of_made (h : w'.ownsRow w.heap.size E 2 v l.length (shs l)) : OwnSh E w' w.heap.size w'.heap.size v l := ⟨h, Nat.le_refl _, fun g hg => (h.lt g hg).2⟩
end
def RetShs (E : TypeId) (w : World) (l : List Sh) (e : Ending) (w' : World) : Prop := ∃ v, e = .returned v ∧ OwnSh E w' w.heap.size w'.heap.size v l ∧ TurnIn 0 0 w w'
def RetShsOk (E : TypeId) (w : World) (l : List Sh) (ok : Bool) (e : Ending) (w' : World) : Prop := ∃ v, e = .returned (.tuple #[v, .bool ok]) ∧ OwnSh E w' w.heap.size w'.heap.size v l ∧ TurnIn 0 0 w w'
/-- the shards that marks write -/
def marksH (k n : Nat) : List Sh := (List.range n).map fun i => (((k + i * 2 : Nat) : Int), mtext (k + i * 2 + 1))
@[simp] theorem marksH_length (k n : Nat) : (marksH k n).length = n := by simp [marksH]
theorem marksH_get (k n i : Nat) (h : i < (marksH k n).length) : (marksH k n)[i] = (((k + i * 2 : Nat) : Int), mtext (k + i * 2 + 1)) := by simp [marksH]
def RetMarkH (E : TypeId) (w : World) (lo hi : Nat) (v : Value) (k n : Nat) (e : Ending) (w' : World) : Prop :=
  e = .returned (.int .i64 ((k + n * 2 : Nat) : Int)) ∧ OwnSh E w' lo hi v (marksH k n) ∧ TurnIn lo hi w w'
end G294

/- markText. -/
namespace Go.Proofs.YtlkoafnlklhaeaaDoor
open Go.RowKit G294

set_option maxRecDepth 100000 in
set_option maxHeartbeats 1000000 in
theorem markText_ret (k : Nat) (w : World) (hk0 : 0 < k) (hk1 : k ≤ 1000000000000) : Calls Tryd.prog 119 #[.int .i64 k] w (RetStr w (mtext k)) := by
  have h0 : ¬ (k : Int) ≤ 0 := by omega
  go_enter Tryd.func119, Tryd.ntmps119
  go_wp2_with fail
  go_loopw [0, 3] (fun q o wr => ∃ (j : Nat) (acc : List UInt8), q = .int .i64 j ∧ o = .string (str acc) ∧ Hid (mdig j acc = mdig k []) ∧ acc.length + j ≤ k ∧ Below w.heap.size w wr)
    (fun q _ _ => (intOf q).toNat)
  case atStart => exact ⟨k, [], rfl, rfl, Eq.refl (mdig k []), by simp, Below.refl _ _⟩
  case round =>
    obtain ⟨j, acc, rfl, rfl, HE, hl, hb⟩ := hrel
    by_cases hj : 0 < j
    · have hji : (0 : Int) < (j : Int) := by omega
      have hsz : (str acc).size ≤ 1000000000000 := by rw [str_size]; omega
      obtain ⟨d, hd⟩ : ∃ d : UInt8, d = UInt8.ofNat (48 + j % 10) := ⟨_, rfl⟩
      have hdi : (48 + (j : Int) % 10) = (d.toNat : Int) := by
        rw [hd, UInt8.toNat_ofNat']; omega
      have hseen : Seen (wr.alloc (.cells #[.int .u8 (48 + (j : Int) % 10)] 5)) (.slice (some ⟨wr.heap.size, 0, none⟩) 1 1) (bys [d]) := by
        refine ⟨_, 1, rfl, by simp, by unfold maxLen; omega, fun _ => ⟨wr.heap.size, 0, rfl, by simp, fun i u hu => ?_⟩⟩
        match i, hu with
        | 0, hu =>
          simp only [bys, List.map_cons, List.getElem?_cons_zero, Option.some.injEq] at hu
          rw [← hu, hdi]; simp
      have hconv := run_string_seen (P := Tryd.prog) 24 5 9 Tryd.underlying24 Tryd.underlying5 Tryd.underlying9 hseen
      have hs2 : ¬ 9223372036854775807 < (str [d]).size + (str acc).size := by rw [str_size]; simp; omega
      have HD := Lib.hid hd
      have hb2 := hb.alloc (by have := hb.size; omega) (.cells #[.int .u8 (48 + (j : Int) % 10)] 5)
      clear hd hdi hseen
      go_wp2_with fail
      go_roundw
      case rel => exact ⟨j / 10, d :: acc, by go_num, by rw [str_append]; rfl, by rw [HD.out, ← mdig_pos hj]; exact HE.out, by simp; omega, hb2⟩
      case measure => simp [intOf]; omega
    · obtain rfl : j = 0 := by omega
      rw [mdig_zero] at HE
      have hsz : (str acc).size ≤ 1000000000000 := by rw [str_size]; omega
      have hs2 : ¬ 9223372036854775807 < 1 + (str acc).size := by omega
      go_wp2_with fail
      go_ret
      exact ⟨by rw [mtext, ← HE.out]; exact congrArg (fun z => Ending.returned (.string z)) (str_append [109] acc), TurnIn.of_below hb⟩

end Go.Proofs.YtlkoafnlklhaeaaDoor

/- Contracts of the laws' helpers on []string: a copy, equality, marks, marks held, sizes. -/
namespace Go.Proofs.YtlkoafnlklhaeaaDoor
open Go.RowKit G294

theorem infoStr : (Tryd.prog.info? 9).map (fun i => (i.zero, i.size, i.bytes)) = some (some (.string ⟨#[]⟩), 1, 16) := by kernel_rfl

set_option maxRecDepth 100000 in
set_option maxHeartbeats 1000000 in
theorem toStringS_own (v : Value) (l : List (List UInt8)) (w : World) (hv : Seen w v (strs l)) (hn : l.length ≤ 1048576) :
    Calls Tryd.prog 50 #[v] w (RetStrs 9 w l) := by
  obtain ⟨i0, hi0, hz0, hz1, hz2⟩ := info_parts infoStr
  obtain ⟨A, c, rfl, hlc, hcm, hx⟩ := hv
  rw [strs_length] at hlc hx
  simp only [strs_length]
  unfold maxLen at hcm
  generalize hnn : l.length = n at *
  have HN := Lib.hid hnn
  clear hnn
  go_enter Tryd.func50, Tryd.ntmps50
  go_wp2_with (at_make; refine wpList_make_full _ rfl _ _ _ rfl w.heap.size _ i0 _ 1 Tryd.underlying78 hi0 hz0 hz1 _ _ _ _ n rfl rfl rfl rfl ?b2 ?b3 ?b4 ?_)
  case b2 => rw [hz2]; omega
  case b3 => unfold maxLen; omega
  case b4 => exact Nat.le_refl _
  intro w1 hown1 hg1
  have hb1 : Below w.heap.size w w1 := below_of_grown hg1 (Nat.le_refl _) (by simp)
  rw [toList_madeCells_one] at hown1
  clear hg1
  go_wp2_with fail
  go_loopw [4] (fun i wr => ∃ k : Nat, k ≤ n ∧ i = .int .i64 k ∧ wr.ownsRow w.heap.size 9 1 (.slice (some ⟨w.heap.size, 0, none⟩) n n) n ((strs l).take k ++ List.replicate (n - k) (.string ⟨#[]⟩)) ∧ Below w.heap.size w wr)
    (fun i _ => n - (intOf i).toNat)
  case atStart => exact ⟨0, Nat.zero_le _, rfl, by simpa using hown1, hb1⟩
  case round =>
    obtain ⟨k, hk, rfl, hown, hb⟩ := hrel
    clear hown1 hb1
    by_cases hlt : k < n
    · obtain ⟨b, off, rfl, hbl, hcell⟩ := hx (by omega)
      have hkl : k < l.length := by rw [HN.out]; exact hlt
      have hcx : wr.cell? ⟨b, off + k, none⟩ = some (.string (str l[k])) := (hb.cell (p := ⟨b, off + k, none⟩) hbl).trans (hcell k _ (strs_get l k hkl))
      have hco : wr.cell? ⟨w.heap.size, k, none⟩ = some (.string ⟨#[]⟩) := by
        have ht : ((strs l).take k).length = k := by simp; omega
        rw [hown.cellAt k (by omega), List.getElem?_append_right (by omega), ht, Nat.sub_self, List.getElem?_replicate, if_pos (by omega)]
      have hfr := hown.frozenAt k
      have hst := hown.stored k (.string (str l[k]))
      rw [take_set_next (strs l) _ k _ (strs_get l k hkl) (by simp [HN.out]; omega)] at hst
      clear hcell hx
      go_wp2_with fail
      go_roundw
      case rel => exact ⟨k + 1, by omega, by go_num, by simpa [Nat.sub_sub] using hst.1, hb.setCell (Nat.le_refl _) _⟩
      case measure => simp [intOf]; omega
    · obtain rfl : k = n := by omega
      go_wp2_with fail
      go_ret
      refine ⟨_, rfl, OwnStrs.of_made ?_, TurnIn.of_below hb⟩
      rw [List.take_of_length_le (by simp [HN.out]), Nat.sub_self] at hown
      simpa [HN.out] using hown

set_option maxRecDepth 100000 in
set_option maxHeartbeats 1000000 in
theorem eqStringS_same (v u : Value) (l : List (List UInt8)) (w : World) (hv : Seen w v (strs l)) (hu : Seen w u (strs l)) :
    Calls Tryd.prog 53 #[v, u] w (RetBool w true) := by
  obtain ⟨A, c, rfl, hlc, hcm, hx⟩ := hv
  obtain ⟨A', c', rfl, hlc', hcm', hx'⟩ := hu
  rw [strs_length] at hlc hx hlc' hx'
  simp only [strs_length]
  unfold maxLen at hcm hcm'
  generalize hnn : l.length = n at *
  have HN := Lib.hid hnn
  clear hnn
  have hbn : ((n : Int) != (n : Int)) = false := by simp
  go_enter Tryd.func53, Tryd.ntmps53
  go_wp2_with fail
  go_loopw [5] (fun i wr => ∃ k : Nat, k ≤ n ∧ i = .int .i64 k ∧ Below w.heap.size w wr)
    (fun i _ => n - (intOf i).toNat)
  case atStart => exact ⟨0, Nat.zero_le _, rfl, Below.refl _ _⟩
  case round =>
    obtain ⟨k, hk, rfl, hb⟩ := hrel
    by_cases hlt : k < n
    · obtain ⟨b, off, rfl, hbl, hcell⟩ := hx (by omega)
      obtain ⟨b', off', rfl, hbl', hcell'⟩ := hx' (by omega)
      have hkl : k < l.length := by rw [HN.out]; exact hlt
      have hcx : wr.cell? ⟨b, off + k, none⟩ = some (.string (str l[k])) := (hb.cell (p := ⟨b, off + k, none⟩) hbl).trans (hcell k _ (strs_get l k hkl))
      have hcy : wr.cell? ⟨b', off' + k, none⟩ = some (.string (str l[k])) := (hb.cell (p := ⟨b', off' + k, none⟩) hbl').trans (hcell' k _ (strs_get l k hkl))
      clear hcell hcell' hx hx'
      have hki : (k : Int) < (n : Int) := by omega
      have hbb := str_same l[k]
      go_wp2_with fail
      go_quiet (fail)
      go_wp2_with fail
      go_roundw
      case rel => exact ⟨k + 1, by omega, by go_num, below_drewN hb _⟩
      case measure => simp [intOf]; omega
    · obtain rfl : k = n := by omega
      go_wp2_with fail
      go_ret
      exact ⟨rfl, TurnIn.of_below hb⟩

set_option maxRecDepth 100000 in
set_option maxHeartbeats 1000000 in
theorem markStringS_own (v : Value) (l : List (List UInt8)) (k0 lo hi : Nat) (w : World) (hv : OwnStrs 9 w lo hi v l) (h1 : 0 < k0) (hk0 : k0 + l.length ≤ 1000000000000) :
    Calls Tryd.prog 54 #[v, .int .i64 k0] w (RetMarkS 9 w lo hi v k0 l.length) := by
  have hown0 := hv
  rcases hv.1.2 with ⟨rfl, hn⟩ | ⟨g, cap, cur, rfl, hbg, hg, hnc, hcm, hcs, ht⟩
  · have : l = [] := List.eq_nil_of_length_eq_zero hn
    subst this
    have HE := Lib.hid hown0
    clear hown0 hv hn
    go_enter Tryd.func54, Tryd.ntmps54
    go_wp2_with fail
    refine wp_loop_once ?_
    go_wp2_with fail
    go_ret
    exact ⟨rfl, HE.out, ⟨rfl, rfl, rfl, Nat.le_refl _, fun _ _ _ => rfl⟩⟩
  · have hgh : g < hi := hv.2.2 g rfl
    have htop : hi ≤ w.heap.size := hv.2.1
    replace hown0 := hv.1
    clear hv hg ht hcs
    unfold maxLen at hcm
    generalize hnn : l.length = n at *
    have HN := Lib.hid hnn
    have hbl : (strs l).length = n := by simp [hnn]
    have HB := Lib.hid hbl
    clear hnn hbl
    go_enter Tryd.func54, Tryd.ntmps54
    go_wp2_with fail
    go_loopw [1, 5] (fun q i wr => ∃ k : Nat, k ≤ n ∧ i = .int .i64 k ∧ q = .int .i64 ((k0 : Int) + (k : Int)) ∧ wr.ownsRow lo 9 1 (.slice (some ⟨g, 0, none⟩) n cap) n ((strs (marksS k0 n)).take k ++ (strs l).drop k) ∧ TurnIn lo hi w wr)
      (fun _ i _ => n - (intOf i).toNat)
    case atStart => exact ⟨0, Nat.zero_le _, rfl, by simp, by simpa using hown0, ⟨rfl, rfl, rfl, Nat.le_refl _, fun _ _ _ => rfl⟩⟩
    case round =>
      obtain ⟨k, hk, rfl, rfl, hown, hgr⟩ := hrel
      clear hown0
      by_cases hlt : k < n
      · have HC : Hid (((k0 + k : Nat) : Int) = (k0 : Int) + (k : Int)) := Int.natCast_add k0 k
        have hki : (k : Int) < (n : Int) := by omega
        rw [← HC.out]
        go_wp2_with fail
        refine (markText_ret (k0 + k) _ (by omega) (by omega)).mono ?_
        rintro e w' ⟨rfl, ht⟩
        have hown' := owns_turn0 hown ht
        have hsz := ht.size
        have hgs := hgr.size
        have hco : w'.cell? ⟨g, k, none⟩ = some (.string (str (l[k]'(by rw [HN.out]; exact hlt)))) := by
          have htk : ((strs (marksS k0 n)).take k).length = k := by simp; omega
          rw [hown'.cellAt k (by omega), List.getElem?_append_right (by omega), htk, Nat.sub_self, List.getElem?_drop, Nat.add_zero, strs_get]
        have hfr := hown'.frozenAt k
        have hst := hown'.stored k (.string (str (mtext (k0 + k))))
        rw [take_set_over _ _ k _ (marksS_get k0 n k hlt) (by simp [HN.out])] at hst
        have hst1 := hst.1
        have hst2 : TurnIn lo hi w _ := turn_trans (turn_trans hgr ht (by omega)) (TurnIn.of_grown (lo := lo) (hi := hi) hst.2 (fun g' e => by simp [Value.ownBlock] at e; omega)) (by omega)
        clear hst
        go_wp2_with fail
        go_roundw
        case rel => exact ⟨k + 1, by omega, by go_num, by go_num, hst1, hst2⟩
        case measure => simp [intOf]; omega
      · obtain rfl : k = n := by omega
        go_wp2_with fail
        go_ret
        refine ⟨?_, ?_, hgr⟩
        · exact congrArg (fun z => Ending.returned (.int .i64 z)) (by simp)
        · rw [List.take_of_length_le (by simp), List.drop_of_length_le (by rw [HB.out]; exact Nat.le_refl _), List.append_nil] at hown
          exact ⟨by simpa using hown, Nat.le_trans htop hgr.size, fun g' e => by simp [Value.ownBlock] at e; omega⟩

set_option maxRecDepth 100000 in
set_option maxHeartbeats 2000000 in
theorem szStringS_any (v : Value) (L : List (List UInt8)) (left : Nat) (w : World) (hv : Seen w v (strs L)) (hmx : ∀ s ∈ L, s.length ≤ maxLen) (hl : left ≤ 1048576) :
    Calls Tryd.prog 48 #[v, .int .i64 left] w fun e w' => e = .returned (.int .i64 (szV left (L.length + sizM L))) ∧ w = w' := by
  obtain ⟨A, c, rfl, hlc, hcm, hx⟩ := hv
  rw [strs_length] at hlc hx
  simp only [strs_length]
  unfold maxLen at hcm
  generalize hnn : L.length = n at *
  have HN := Lib.hid hnn
  clear hnn
  by_cases h0 : n ≤ left
  · go_enter Tryd.func48, Tryd.ntmps48
    go_wp2_with fail
    go_loop [1, 5] (fun q i => ∃ k m : Nat, k ≤ n ∧ i = .int .i64 k ∧ q = .int .i64 m ∧ m ≤ left ∧ Hid (m + sizM (L.take k) + n = left)) (fun _ i => n - (intOf i).toNat)
    case atStart => exact ⟨0, left - n, Nat.zero_le _, rfl, by go_num, by omega, by show left - n + sizM (L.take 0) + n = left; simp [sizM]; omega⟩
    case round =>
      obtain ⟨k, m, hk, rfl, rfl, hmd, HM⟩ := hrel
      by_cases hlt : k < n
      · have hki : (k : Int) < (n : Int) := by omega
        have hkl : k < L.length := by rw [HN.out]; exact hlt
        obtain ⟨b, off, rfl, hbl, hcell⟩ := hx (by omega)
        have hcx := hcell k _ (strs_get L k hkl)
        have hsz := str_size L[k]
        have hmk := hmx L[k] (List.getElem_mem hkl)
        unfold maxLen at hmk
        have HT := Lib.hid (sizM_take_succ L k hkl)
        have HTL := Lib.hid (sizM_take_le L (k + 1))
        have HG : Hid (L.getD k [] = L[k]) := by show L.getD k [] = L[k]; simp [List.getD, hkl]
        clear hcell hx
        by_cases hle : L[k].length ≤ m
        · have HM2 : Hid (m - L[k].length + sizM (L.take (k + 1)) + n = left) := by
            show _ = left
            have := HT.out; have := HM.out; rw [HG.out] at *; omega
          generalize hnk : L[k].length = nk at *
          have hneg : ¬ ((m : Int) - (nk : Int)) < 0 := by omega
          go_wp2_with fail
          go_round
          case rel => exact ⟨k + 1, m - nk, by omega, by go_num, by go_num, by omega, HM2⟩
          case measure => simp [intOf]; omega
        · have HF : Hid (szV left (n + sizM L) = -1) := by
            show _ = _
            apply szV_no
            have := HT.out; have := HTL.out; have := HM.out; rw [HG.out] at *; omega
          generalize hnk : L[k].length = nk at *
          have hneg : ((m : Int) - (nk : Int)) < 0 := by omega
          go_wp2_with fail
          go_ret
          exact ⟨by rw [HF.out]; rfl, rfl⟩
      · obtain rfl : k = n := by omega
        have hki : ¬ (k : Int) < (k : Int) := by omega
        have HF : Hid (szV left (k + sizM L) = (m : Int)) := by
          have e := HM.out
          rw [List.take_of_length_le (by rw [HN.out]; exact Nat.le_refl _)] at e
          show _ = _
          rw [szV_yes (by omega)]; omega
        go_wp2_with fail
        go_ret
        exact ⟨by rw [HF.out]; rfl, rfl⟩
  · have HF : Hid (szV left (n + sizM L) = -1) := by show _ = _; exact szV_no (by omega)
    go_enter Tryd.func48, Tryd.ntmps48
    go_wp2_with fail
    go_ret
    exact ⟨by rw [HF.out]; rfl, rfl⟩

theorem szStringS_yes (v : Value) (L : List (List UInt8)) (left : Nat) (w : World) (hv : Seen w v (strs L)) (hmx : ∀ s ∈ L, s.length ≤ maxLen) (h : L.length + sizM L ≤ left) (hl : left ≤ 1048576) :
    Calls Tryd.prog 48 #[v, .int .i64 left] w (RetInt w ((left - (L.length + sizM L) : Nat) : Int)) :=
  (szStringS_any v L left w hv hmx hl).mono fun e w' he => ⟨by rw [he.1, szV_yes h], he.2 ▸ TurnIn.refl w⟩

theorem szStringS_no (v : Value) (L : List (List UInt8)) (left : Nat) (w : World) (hv : Seen w v (strs L)) (hmx : ∀ s ∈ L, s.length ≤ maxLen) (h : left < L.length + sizM L) (hl : left ≤ 1048576) :
    Calls Tryd.prog 48 #[v, .int .i64 left] w (RetInt w (-1)) :=
  (szStringS_any v L left w hv hmx hl).mono fun e w' he => ⟨by rw [he.1, szV_no h], he.2 ▸ TurnIn.refl w⟩

end Go.Proofs.YtlkoafnlklhaeaaDoor

/- Contracts of the laws' helpers on []Shard: equality, marks, marks held. -/
namespace Go.Proofs.YtlkoafnlklhaeaaDoor
open Go.RowKit G294

theorem infoShard : (Tryd.prog.info? 91).map (fun i => (i.zero, i.size, i.bytes)) = some (some (.agg #[.int .i64 0, .string ⟨#[]⟩]), 2, 24) := by kernel_rfl

set_option maxRecDepth 100000 in
set_option maxHeartbeats 1000000 in
theorem eqShard_same (n : Int) (s : List UInt8) (w : World) : Calls Tryd.prog 61 #[.agg #[.int .i64 n, .string (str s)], .agg #[.int .i64 n, .string (str s)]] w (RetBool w true) := by
  have hb0 : Below w.heap.size w (w.alloc (.cells #[.int .i64 n, .string (str s)] 91)) := (Below.refl _ _).alloc (Nat.le_refl _) _
  have hb1 : Below w.heap.size w ((w.alloc (.cells #[.int .i64 n, .string (str s)] 91)).alloc (.cells #[.int .i64 n, .string (str s)] 91)) := hb0.alloc (by simp) _
  have hbb := str_same s
  have hnn : ((n : Int) != (n : Int)) = false := by simp
  clear hb0
  go_enter Tryd.func61, Tryd.ntmps61
  go_wp2_with fail
  go_ret
  exact ⟨rfl, TurnIn.of_below hb1⟩

set_option maxRecDepth 100000 in
set_option maxHeartbeats 1000000 in
theorem eqShardS_same (v u : Value) (l : List Sh) (w : World) (hv : SeenH w v l) (hu : SeenH w u l) :
    Calls Tryd.prog 52 #[v, u] w (RetBool w true) := by
  obtain ⟨A, c, rfl, hlc, hcm, hx⟩ := hv
  obtain ⟨A', c', rfl, hlc', hcm', hx'⟩ := hu
  unfold maxLen at hcm hcm'
  generalize hnn : l.length = n at *
  have HN := Lib.hid hnn
  clear hnn
  have hbn : ((n : Int) != (n : Int)) = false := by simp
  go_enter Tryd.func52, Tryd.ntmps52
  go_wp2_with fail
  go_loopw [5] (fun i wr => ∃ k : Nat, k ≤ n ∧ i = .int .i64 k ∧ Below w.heap.size w wr)
    (fun i _ => n - (intOf i).toNat)
  case atStart => exact ⟨0, Nat.zero_le _, rfl, Below.refl _ _⟩
  case round =>
    obtain ⟨k, hk, rfl, hb⟩ := hrel
    by_cases hlt : k < n
    · obtain ⟨b, off, rfl, hbl, hcell⟩ := hx (by omega)
      obtain ⟨b', off', rfl, hbl', hcell'⟩ := hx' (by omega)
      obtain ⟨⟨no, s⟩, hks⟩ := at_lt HN.out hlt
      have hc1 := (hb.cell (p := ⟨b, off + k * 2, none⟩) hbl).trans (hcell k _ hks).1
      have hc2 := (hb.cell (p := ⟨b, off + k * 2 + 1, none⟩) hbl).trans (hcell k _ hks).2
      have hd1 := (hb.cell (p := ⟨b', off' + k * 2, none⟩) hbl').trans (hcell' k _ hks).1
      have hd2 := (hb.cell (p := ⟨b', off' + k * 2 + 1, none⟩) hbl').trans (hcell' k _ hks).2
      simp only at hc1 hc2 hd1 hd2
      clear hcell hcell' hx hx'
      have hbs := hb.size
      have hki : (k : Int) < (n : Int) := by omega
      go_wp2_with fail
      go_region_held3 (fun w' => (w'.cell? ⟨b, off + k * 2, none⟩ = some (.int .i64 no) ∧ w'.cell? ⟨b, off + k * 2 + 1, none⟩ = some (.string (str s))) ∧ w'.cell? ⟨b', off' + k * 2, none⟩ = some (.int .i64 no) ∧ w'.cell? ⟨b', off' + k * 2 + 1, none⟩ = some (.string (str s)))
        (first | exact ⟨⟨hc1, hc2⟩, hd1, hd2⟩ | exact ⟨⟨cell_turn ht hc1 (by simp; omega), cell_turn ht hc2 (by simp; omega)⟩, cell_turn ht hd1 (by simp; omega), cell_turn ht hd2 (by simp; omega)⟩)
        ((go_at_call 61; refine (eqShard_same no s _).mono ?_; rintro e w' ⟨rfl, ht⟩))
      all_goals
        have hb2 : Below w.heap.size w w' := ht.base (below_drewN hb 1) (by simp; omega) (by omega)
        go_wp2_with fail
        go_roundw
        case rel => exact ⟨k + 1, by omega, by go_num, hb2⟩
        case measure => simp [intOf]; omega
    · obtain rfl : k = n := by omega
      go_wp2_with fail
      go_ret
      exact ⟨rfl, TurnIn.of_below hb⟩

set_option maxRecDepth 100000 in
set_option maxHeartbeats 2000000 in
theorem markShardS_own (v : Value) (l : List Sh) (k0 lo hi : Nat) (w : World) (hv : OwnSh 91 w lo hi v l) (h1 : 0 < k0) (hk0 : k0 + l.length * 2 ≤ 1000000000000) :
    Calls Tryd.prog 55 #[v, .int .i64 k0] w (RetMarkH 91 w lo hi v k0 l.length) := by
  have hown0 := hv
  rcases hv.1.2 with ⟨rfl, hn⟩ | ⟨g, cap, cur, rfl, hbg, hg, hnc, hcm, hcs, ht⟩
  · have : l = [] := List.eq_nil_of_length_eq_zero hn
    subst this
    have HE := Lib.hid hown0
    clear hown0 hv hn
    go_enter Tryd.func55, Tryd.ntmps55
    go_wp2_with fail
    refine wp_loop_once ?_
    go_wp2_with fail
    go_ret
    exact ⟨rfl, HE.out, ⟨rfl, rfl, rfl, Nat.le_refl _, fun _ _ _ => rfl⟩⟩
  · have hgh : g < hi := hv.2.2 g rfl
    have htop : hi ≤ w.heap.size := hv.2.1
    replace hown0 := hv.1
    clear hv hg ht hcs
    unfold maxLen at hcm
    generalize hnn : l.length = n at *
    have HN := Lib.hid hnn
    clear hnn
    go_enter Tryd.func55, Tryd.ntmps55
    go_wp2_with fail
    go_loopw [1, 5] (fun q i wr => ∃ k : Nat, k ≤ n ∧ i = .int .i64 k ∧ q = .int .i64 ((k0 + k * 2 : Nat) : Int) ∧ wr.ownsRow lo 91 2 (.slice (some ⟨g, 0, none⟩) n cap) n (shs ((marksH k0 n).take k ++ l.drop k)) ∧ TurnIn lo hi w wr)
      (fun _ i _ => n - (intOf i).toNat)
    case atStart => exact ⟨0, Nat.zero_le _, rfl, by simp, by simpa using hown0, ⟨rfl, rfl, rfl, Nat.le_refl _, fun _ _ _ => rfl⟩⟩
    case round =>
      obtain ⟨k, hk, rfl, rfl, hown, hgr⟩ := hrel
      clear hown0
      by_cases hlt : k < n
      · have hki : (k : Int) < (n : Int) := by omega
        have hlen : ((marksH k0 n).take k ++ l.drop k).length = n := by simp [HN.out]; omega
        obtain ⟨⟨no, s⟩, hks⟩ := at_lt hlen hlt
        obtain ⟨hkl, hke⟩ := List.getElem?_eq_some_iff.1 hks
        have hco : wr.cell? ⟨g, k * 2, none⟩ = some (.int .i64 no) := by
          rw [hown.cellAt (k * 2) (by omega), shs_no _ k hkl, hke]
        have hfr := hown.frozenAt (k * 2)
        have hst := hown.stored (k * 2) (.int .i64 ((k0 + k * 2 : Nat) : Int))
        have hst2 : TurnIn lo hi w _ := turn_trans hgr (TurnIn.of_grown (lo := lo) (hi := hi) hst.2 (fun g' e => by simp [Value.ownBlock] at e; omega)) (by omega)
        have HL : Hid ((((shs ((marksH k0 n).take k ++ l.drop k)).set (k * 2) (.int .i64 ((k0 + k * 2 : Nat) : Int))).set (k * 2 + 1) (.string (str (mtext (k0 + k * 2 + 1))))) = shs ((marksH k0 n).take (k + 1) ++ l.drop (k + 1))) := by
          show _ = _
          rw [shs_set _ k (((k0 + k * 2 : Nat) : Int), mtext (k0 + k * 2 + 1)) hkl, take_set_over _ _ k _ (by rw [List.getElem?_eq_getElem (by simpa using hlt), marksH_get]) (by simp [HN.out])]
        have HD : Hid ((shs ((marksH k0 n).take k ++ l.drop k))[k * 2 + 1]? = some (.string (str s))) := by
          show _ = _
          rw [shs_data _ k hkl, hke]
        have HC1 : Hid (((k0 + k * 2 : Nat) : Int) + 1 = ((k0 + k * 2 + 1 : Nat) : Int)) := (Int.natCast_add _ 1).symm
        generalize shs ((marksH k0 n).take k ++ l.drop k) = XS at *
        obtain ⟨m, hm⟩ : ∃ m, m = k0 + k * 2 := ⟨_, rfl⟩
        rw [← hm] at hst hst2 HL HC1 ⊢
        have hm1 : m + 2 ≤ 1000000000000 := by omega
        have hm0 : 0 < m := by omega
        have HM := Lib.hid hm
        have hst1 := hst.1
        have HB2 := Lib.hid hst2
        have HCT : Hid (∀ W, Calls Tryd.prog 119 #[.int .i64 ((m : Int) + 1)] W (RetStr W (mtext (m + 1)))) := fun W => HC1.out ▸ markText_ret (m + 1) W (by omega) (by omega)
        clear hst hown hke hkl hks hlen hgr hst2 hm
        go_wp2_with fail
        refine (HCT.out _).mono ?_
        rintro e w' ⟨rfl, ht⟩
        have hown' := owns_turn0 hst1 ht
        have hsz := ht.size
        have hgs := HB2.out.size
        have hco2 : w'.cell? ⟨g, k * 2 + 1, none⟩ = some (.string (str s)) := by
          rw [hown'.cellAt (k * 2 + 1) (by omega), List.getElem?_set_ne (by omega)]; exact HD.out
        have hfr2 := hown'.frozenAt (k * 2 + 1)
        have hst3 := hown'.stored (k * 2 + 1) (.string (str (mtext (m + 1))))
        rw [HL.out] at hst3
        have hst4 : TurnIn lo hi w _ := turn_trans (turn_trans HB2.out ht (by omega)) (TurnIn.of_grown (lo := lo) (hi := hi) hst3.2 (fun g' e => by simp [Value.ownBlock] at e; omega)) (by omega)
        have hst5 := hst3.1
        clear hst3 hown' hst1
        go_wp2_with fail
        go_roundw
        case rel => exact ⟨k + 1, by omega, by go_num, by have := HM.out; go_num, hst5, hst4⟩
        case measure => simp [intOf]; omega
      · obtain rfl : k = n := by omega
        go_wp2_with fail
        go_ret
        refine ⟨rfl, ?_, hgr⟩
        rw [List.take_of_length_le (by simp), List.drop_of_length_le (by rw [HN.out]; exact Nat.le_refl _), List.append_nil] at hown
        exact ⟨by simpa using hown, Nat.le_trans htop hgr.size, fun g' e => by simp [Value.ownBlock] at e; omega⟩

end Go.Proofs.YtlkoafnlklhaeaaDoor
