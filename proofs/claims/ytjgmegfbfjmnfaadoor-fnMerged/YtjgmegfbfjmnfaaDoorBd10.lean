/- Joined texts: SpecEncode, SpecDecode, SpecDecode2, Numbers, Encode, Grids2, Solved. -/
import Derived.Test.YtjgmegfbfjmnfaaDoorBd09
import Derived.Test.YtjgmegfbfjmnfaaDoorBd07
import Derived.Test.YtjgmegfbfjmnfaaDoorBd04
import Derived.Test.YtjgmegfbfjmnfaaDoorBd08
import Derived.Test.YtjgmegfbfjmnfaaDoorBd06
import Derived.Test.YtjgmegfbfjmnfaaDoorBd05
import Derived.Test.YtjgmegfbfjmnfaaDoorBd03
set_option linter.unusedSimpArgs false
set_option linter.unusedVariables false
/- EncodeShards: the model's. -/
namespace G294
open Go Go.RowKit
theorem shards_rows (r c n : Nat) (F : Ents) (T : List (List UInt8)) (k : Nat) (h : k < r) : (rowsT r c n F T)[k]? = some (comb c n (F k) T) := by
  simp [rowsT, mkM, h, comb]
/-- append(s, x) of one struct of two cells, onto a row of the call's own -/
theorem wpList_append2 {P : Program} {w : World} {ops : Array Oper} {rest : List Oper} {o : Oper} {a : Act} {Q : Exit → Act → World → Prop} (hgd : o.guard = none) (s x : Operand) (t : TypeId)
    (ho : o.op = .call { callee := .builtin .append, args := #[s, x], argTypes := #[t, t] })
    (base : Nat) (e : TypeId) (z : Value) (bytes : Nat) (ht : P.underlying t = some (.slice e)) (hinfo : (P.info? e).map (fun i => (i.zero, i.size, i.bytes)) = some (some z, 2, bytes)) (hzs : z.cells.size = 2)
    (v : Value) (n : Nat) (xs : List Value) (hs : a.eval s = v) (hown : w.ownsRow base e 2 v n xs)
    (g : Nat) (u u' : Value) (hx : a.eval x = .slice (some ⟨g, 0, none⟩) 1 1) (hc : w.cell? ⟨g, 0, none⟩ = some u) (hc' : w.cell? ⟨g, 1, none⟩ = some u') (h1 : u.oneCell' = true) (h2 : u'.oneCell' = true)
    (hn : n ≤ 1000000000) (hby : bytes ≤ 1000) (hbase : base ≤ w.heap.size)
    (h : ∀ v' w', w'.ownsRow base e 2 v' (n + 1) (xs ++ [u, u']) → w.grownBy w' v.ownBlock → (v'.ownBlock = v.ownBlock ∨ v'.ownBlock = some w.heap.size) → wpList P ops Q rest (a.put o.dst v') w') :
    wpList P ops Q (o :: rest) a w := by
  obtain ⟨i, hi, hz, hsz, hbs⟩ := info_parts hinfo
  refine wpList_append_own_at w hgd s x t ho base e i z 2 bytes ht hi hz hsz hbs hzs (by omega) v n xs hs hown ⟨g, 0, none⟩ 1 1 [u, u'] hx rfl ?_ ?_ ?_ ?_ hbase (fun v' w' h2 h3 _ h5 => h v' w' h2 h3 h5)
  · intro j y hj
    match j, hj with
    | 0, hj => simp at hj; subst hj; simpa [Addr.add] using hc
    | 1, hj => simp at hj; subst hj; simpa [Addr.add] using hc'
  · intro y hy
    simp only [List.mem_cons, List.not_mem_nil, or_false] at hy
    rcases hy with rfl | rfl
    · exact h1
    · exact h2
  · unfold maxLen; omega
  · have : (n + 1) * bytes ≤ 1000000001 * 1000 := Nat.mul_le_mul (by omega) hby
    omega
end G294
namespace Go.Proofs.YtjgmegfbfjmnfaaDoor
open Go.RowKit G294

end Go.Proofs.YtjgmegfbfjmnfaaDoor

/- Decoding shards: the model's. -/
namespace G294
open Go Go.RowKit
/-- the rows of the code that the first shards name -/
def usedG (k : Nat) (l : List Sh) : Ents := fun i j => codF k (l.getD i (0, [])).1.toNat j
def usedF (k : Nat) (l : List Sh) : Ents := ent (mkM k k (usedG k l))
theorem used_mk (k : Nat) (l : List Sh) : mkM k k (usedF k l) = mkM k k (usedG k l) := mkM_congr fun i j hi hj => ent_mkM _ _ _ _ _ hi hj
def nosK (k : Nat) (l : List Sh) : List Int := (l.take k).map (·.1)
def txtK (k : Nat) (l : List Sh) : List (List UInt8) := (l.take k).map (·.2)
def decX (k n : Nat) (l : List Sh) : List (List UInt8) := rowsT k k n (bst (usedF k l) idF k k) (txtK k l)
def usedOk (k : Nat) (l : List Sh) : Bool := decide ((est (usedF k l) k k).2 = k)
def decY (k n : Nat) (l : List Sh) : List (List UInt8) := if usedOk k l = true then decX k n l else []
theorem decY_yes {k n : Nat} {l : List Sh} (h : usedOk k l = true) : decY k n l = decX k n l := if_pos h
theorem decY_no {k n : Nat} {l : List Sh} (h : usedOk k l = false) : decY k n l = [] := if_neg (by rw [h]; simp)
theorem nosK_succ {l : List Sh} {k : Nat} {s : Sh} (h : l[k]? = some s) : nosK (k + 1) l = nosK k l ++ [s.1] := by simp [nosK, List.take_add_one, h]
theorem txtK_succ {l : List Sh} {k : Nat} {s : Sh} (h : l[k]? = some s) : txtK (k + 1) l = txtK k l ++ [s.2] := by simp [txtK, List.take_add_one, h]
theorem nosK_length {l : List Sh} {k : Nat} (h : k ≤ l.length) : (nosK k l).length = k := by simp [nosK]; omega
theorem txtK_length {l : List Sh} {k : Nat} (h : k ≤ l.length) : (txtK k l).length = k := by simp [txtK]; omega
theorem nosK_get {l : List Sh} {k i : Nat} (h : k ≤ l.length) (hi : i < k) : (nosK k l).getD i 0 = (l.getD i (0, [])).1 := by
  have : i < l.length := by omega
  simp [nosK, List.getD, List.getElem?_map, List.getElem?_take, hi, this]
theorem txtK_get {l : List Sh} {k i : Nat} (h : k ≤ l.length) (hi : i < k) : (txtK k l).getD i [] = (l.getD i (0, [])).2 := by
  have : i < l.length := by omega
  simp [txtK, List.getD, List.getElem?_map, List.getElem?_take, hi, this]
theorem range_get {k j : Nat} (h : j < k) : ((List.range k).map fun i : Nat => (i : Int)).getD j 0 = (j : Int) := by simp [List.getD, h]
theorem used_eq {l : List Sh} {k : Nat} (h : k ≤ l.length) : mkM (nosK k l).length ((List.range k).map fun i : Nat => (i : Int)).length (fun i j => codF k ((nosK k l).getD i 0).toNat (((List.range k).map fun i : Nat => (i : Int)).getD j 0).toNat) = mkM k k (usedF k l) := by
  rw [nosK_length h]
  simp only [List.length_map, List.length_range]
  rw [used_mk]
  unfold mkM mkRow
  refine List.map_congr_left fun i hi => List.map_congr_left fun j hj => ?_
  rw [List.mem_range] at hi hj
  show codF k ((nosK k l).getD i 0).toNat (((List.range k).map fun i : Nat => (i : Int)).getD j 0).toNat = usedG k l i j
  rw [nosK_get h hi, range_get hj]
  simp [usedG]
end G294
namespace Go.Proofs.YtjgmegfbfjmnfaaDoor
open Go.RowKit G294

end Go.Proofs.YtjgmegfbfjmnfaaDoor

/- DecodeShards: the model's, and its mathematics. -/
namespace G294
open Go Go.RowKit
def lenH (l : List Sh) : Nat := (l.getD 0 (0, [])).2.length
/-- what both check ahead of the inverse -/
def preOk (l : List Sh) (k m : Int) : Bool := shapeOk k m && shardsOk l (k + m) && decide (k ≤ l.length)
def decOk (l : List Sh) (k m : Int) : Bool := preOk l k m && usedOk k.toNat l
def decR (l : List Sh) (k m : Int) : List (List UInt8) := if preOk l k m = true then decY k.toNat (lenH l) l else []
theorem decR_no {l : List Sh} {k m : Int} (h : preOk l k m = false) : decR l k m = [] := if_neg (by rw [h]; simp)
theorem decR_yes {l : List Sh} {k : Nat} {m : Int} (h : preOk l k m = true) : decR l k m = decY k (lenH l) l := by unfold decR; rw [if_pos h]; simp
theorem decOk_no {l : List Sh} {k m : Int} (h : preOk l k m = false) : decOk l k m = false := by unfold decOk; rw [h]; rfl
theorem decOk_yes {l : List Sh} {k : Nat} {m : Int} (h : preOk l k m = true) : decOk l k m = usedOk k l := by unfold decOk; rw [h]; simp
theorem shards_ge {l : List Sh} {n : Int} (h : shardsOk l n = true) : ∀ (i : Nat) (s : Sh), l[i]? = some s → 0 ≤ s.1
  | 0, s, hs => by have := ((shardsOk_iff l n).1 h 0 s hs).1.1; simp [lastNo] at this; omega
  | i + 1, s, hs => by
    have h1 := ((shardsOk_iff l n).1 h (i + 1) s hs).1.1
    have hi : i < l.length := by have := (List.getElem?_eq_some_iff.1 hs).1; omega
    have h2 := shards_ge h i l[i] (List.getElem?_eq_getElem hi)
    rw [lastNo_succ (List.getElem?_eq_getElem hi)] at h1
    omega
theorem shards_no {l : List Sh} {k q : Nat} (h : shardsOk l ((k : Int) + q) = true) : ∀ (i : Nat) (s : Sh), l[i]? = some s → 0 ≤ s.1 ∧ s.1 < ((k + q : Nat) : Int) := fun i s hs => by
  have h1 := ((shardsOk_iff _ _).1 h i s hs).1.2
  have h2 := shards_ge h i s hs
  omega
theorem shards_len {l : List Sh} {n : Int} (h : shardsOk l n = true) : ∀ (i : Nat) (s : Sh), l[i]? = some s → s.2.length = lenH l := fun i s hs => ((shardsOk_iff l n).1 h i s hs).2.1
theorem shards_40 {l : List Sh} {n : Int} (h : shardsOk l n = true) : lenH l ≤ 40 := by
  cases l with
  | nil => simp [lenH]
  | cons a t => exact ((shardsOk_iff _ n).1 h 0 a rfl).2.2
end G294
namespace Go.Proofs.YtjgmegfbfjmnfaaDoor
open Go.RowKit G294

end Go.Proofs.YtjgmegfbfjmnfaaDoor

/- numbersOf and rowsAt, the program's. -/
namespace G294
open Go Go.RowKit
/-- the rows that numbers name -/
def pickM (L : Mat) (nos : List Int) : Mat := nos.map fun n => L.getD n.toNat []
/-- those rows as values -/
def pickV (vs : List Value) (nos : List Int) : List Value := nos.map fun n => vs.getD n.toNat undef
@[simp] theorem pickM_length (L : Mat) (nos : List Int) : (pickM L nos).length = nos.length := by simp [pickM]
@[simp] theorem pickV_length (vs : List Value) (nos : List Int) : (pickV vs nos).length = nos.length := by simp [pickV]
theorem pickM_mk {r c : Nat} {F : Ents} {nos : List Int} (h : ∀ i, i < nos.length → 0 ≤ nos.getD i 0 ∧ nos.getD i 0 < (r : Int)) : pickM (mkM r c F) nos = mkM nos.length c (fun i j => F (nos.getD i 0).toNat j) := by
  apply List.ext_getElem
  · simp
  · intro i h1 h2
    have hi : i < nos.length := by simpa using h1
    have hh := h i hi
    have e : nos.getD i 0 = nos[i] := by simp [List.getD, hi]
    rw [e] at hh
    have e2 : (mkM r c F).getD nos[i].toNat [] = mkRow c (F nos[i].toNat) := mkM_getD _ _ _ _ (by omega)
    simp only [pickM, List.getElem_map, e2]
    have e3 : nos[i]?.getD 0 = nos[i] := by simpa [List.getD] using e
    simp [mkM, e3]
theorem pick_seen {w w' : World} {u : Value} {L : Mat} {vs : List Value} {nos : List Int} (hl : vs.length = L.length) (hs : ∀ (i : Nat) (u : Value), vs[i]? = some u → Seen w u (bys (L.getD i [])))
    (hno : ∀ i, i < nos.length → 0 ≤ nos.getD i 0 ∧ nos.getD i 0 < (L.length : Int)) (hb : Below w.heap.size w w') (hu : Seen w' u (pickV vs nos)) : SeenM w' u (pickM L nos) := by
  refine ⟨pickV vs nos, by simp, hu, fun i x hx => ?_⟩
  have hi : i < nos.length := by have := (List.getElem?_eq_some_iff.1 hx).1; simpa using this
  have hh := hno i hi
  have e : nos.getD i 0 = nos[i] := by simp [List.getD, hi]
  rw [e] at hh
  have hlt : nos[i].toNat < vs.length := by omega
  have ex : x = vs[nos[i].toNat] := by
    have : (pickV vs nos)[i]? = some (vs.getD nos[i].toNat undef) := by simp [pickV, hi]
    rw [this] at hx
    have := Option.some.inj hx
    rw [← this]; simp [List.getD, hlt]
  have em : (pickM L nos).getD i [] = L.getD nos[i].toNat [] := by simp [pickM, List.getD, hi]
  rw [em, ex]
  exact (hs _ _ (List.getElem?_eq_getElem hlt)).below hb
/-- rows are seen, handed back -/
def RetSeenM (w : World) (L : Mat) (e : Ending) (w' : World) : Prop := ∃ A n c, e = .returned (.agg #[.slice A n c]) ∧ SeenM w' (.slice A n c) L ∧ TurnIn 0 0 w w'
end G294
namespace Go.Proofs.YtjgmegfbfjmnfaaDoor
open Go.RowKit G294

set_option maxRecDepth 100000 in
set_option maxHeartbeats 1000000 in
theorem numbersOf_own (v : Value) (l : List Sh) (w : World) (hv : SeenH w v l) (hn : l.length ≤ 1048576) : Calls Tryd.prog 102 #[v] w (RetInts 3 w (l.map (·.1))) := by
  obtain ⟨i0, hi0, hz0, hz1, hz2⟩ := info_parts infoInt
  obtain ⟨A, c, rfl, hlc, hcm, hx⟩ := hv
  unfold maxLen at hcm
  have hlm : (l.map (·.1)).length = l.length := by simp
  generalize hT : l.map (·.1) = T at *
  have HTT := Lib.hid hT
  clear hT
  generalize hnn : l.length = n at *
  have HN := Lib.hid hnn
  have HLM := Lib.hid hlm
  clear hnn hlm
  go_enter Tryd.func102, Tryd.ntmps102
  go_wp2_with (at_make; refine wpList_make_full _ rfl _ _ _ rfl w.heap.size _ i0 _ 1 Tryd.underlying64 hi0 hz0 hz1 _ _ _ _ n rfl rfl rfl rfl ?b2 ?b3 ?b4 ?_)
  case b2 => rw [hz2]; omega
  case b3 => unfold maxLen; omega
  case b4 => exact Nat.le_refl _
  intro w1 hown1 hg1
  have hb1 : Below w.heap.size w w1 := below_of_grown hg1 (Nat.le_refl _) (by simp)
  rw [toList_madeCells_one] at hown1
  have hs1 := (hown1.lt w.heap.size rfl).2
  clear hg1
  go_wp2_with fail
  go_loopw [11] (fun i wr => ∃ k : Nat, k ≤ n ∧ i = .int .i64 k ∧ wr.ownsRow w.heap.size 3 1 (.slice (some ⟨w.heap.size, 0, none⟩) n n) n ((ints T).take k ++ List.replicate (n - k) (.int .i64 0)) ∧ Below w.heap.size w wr)
    (fun i _ => n - (intOf i).toNat)
  case atStart => exact ⟨0, Nat.zero_le _, rfl, by simpa using hown1, hb1⟩
  case round =>
    obtain ⟨k, hk, rfl, hown, hb⟩ := hrel
    clear hown1 hb1
    by_cases hlt : k < n
    · obtain ⟨b, off, rfl, hbl, hcell⟩ := hx (by omega)
      obtain ⟨⟨no, s⟩, hks⟩ := at_lt HN.out hlt
      have hc1 := (hb.cell (p := ⟨b, off + k * 2, none⟩) hbl).trans (hcell k _ hks).1
      have hc2 := (hb.cell (p := ⟨b, off + k * 2 + 1, none⟩) hbl).trans (hcell k _ hks).2
      simp only at hc1 hc2
      have hki : (k : Int) < (n : Int) := by omega
      have hTk : (ints T)[k]? = some (.int .i64 no) := by
        rw [← HTT.out]; simp [ints, hks]
      have HTK := Lib.hid hTk
      have hwr := (hown.lt w.heap.size rfl).2
      have hown2 := hown.alloc (.cells #[.int .i64 no, .string (str s)] 130)
      have hco : (wr.alloc (.cells #[.int .i64 no, .string (str s)] 130)).cell? ⟨w.heap.size, k, none⟩ = some (.int .i64 0) := by
        have ht : ((ints T).take k).length = k := by simp [HLM.out]; omega
        rw [hown2.cellAt k (by omega), List.getElem?_append_right (by omega), ht, Nat.sub_self, List.getElem?_replicate, if_pos (by omega)]
      have hfr := hown2.frozenAt k
      have hst := hown.stored k (.int .i64 no)
      rw [take_set_next (ints T) _ k _ hTk (by simp [HLM.out]; omega)] at hst
      have hst1 := hst.1.alloc (.cells #[.int .i64 no, .string (str s)] 130)
      have hb2 := (hb.setCell (p := ⟨w.heap.size, k, none⟩) (Nat.le_refl _) (.int .i64 no)).alloc (by have := hb.size; simp; omega) (.cells #[.int .i64 no, .string (str s)] 130)
      clear hcell hx hown2 hTk
      go_wp2_with fail
      go_roundw
      case rel => exact ⟨k + 1, by omega, by go_num, by simpa [Nat.sub_sub] using hst1, hb2⟩
      case measure => simp [intOf]; omega
    · obtain rfl : k = n := by omega
      have hki : ¬ (k : Int) < (k : Int) := by omega
      go_wp2_with fail
      go_ret
      refine ⟨_, rfl, OwnInts.of_made ?_, TurnIn.of_below hb⟩
      rw [List.take_of_length_le (by simp [HLM.out]), Nat.sub_self] at hown
      rw [HLM.out]
      simpa using hown

set_option maxRecDepth 100000 in
set_option maxHeartbeats 2000000 in
theorem rowsAt_seen (v : Value) (L : Mat) (u : Value) (nos : List Int) (w : World) (hm : SeenM w v L) (hu : Seen w u (ints nos)) (hn : nos.length ≤ 1048576) (hno : ∀ i, i < nos.length → 0 ≤ nos.getD i 0 ∧ nos.getD i 0 < (L.length : Int)) :
    Calls Tryd.prog 101 #[.agg #[v], u] w (RetSeenM w (pickM L nos)) := by
  obtain ⟨i0, hi0, hz0, hz1, hz2⟩ := info_parts infoRowB
  obtain ⟨vs, hvl, hsv, hrows⟩ := hm
  have HSL : Hid (∀ (x : Value) (m : Nat), vs[m]? = some x → ∃ A' n' c', x = .slice A' n' c') := fun x m hx => by
    obtain ⟨A', c', e, _⟩ := hrows m x hx
    exact ⟨A', _, c', e⟩
  have HPS : Hid (∀ (w' : World) (x : Value), Below w.heap.size w w' → Seen w' x (pickV vs nos) → SeenM w' x (pickM L nos)) := fun w' x hb hx => pick_seen hvl hrows hno hb hx
  obtain ⟨A, cA, rfl, hlA, hcA, hxA⟩ := hsv
  obtain ⟨B, cB, rfl, hlB, hcB, hxB⟩ := hu
  have hlp := pickV_length vs nos
  rw [ints_length] at hlB hxB
  simp only [ints_length]
  unfold maxLen at hcA hcB
  rw [hvl] at hlA hxA ⊢
  generalize hLL : L.length = r at *
  generalize hnn : nos.length = n at *
  have HN := Lib.hid hnn
  have HVL := Lib.hid hvl
  have HNO := Lib.hid hno
  have HXA := Lib.hid hxA
  have HXB := Lib.hid hxB
  have HLP := Lib.hid hlp
  clear hnn hLL hvl hno hrows hxA hxB hlp
  have kB : TurnIn 0 0 w ((w.alloc (.cells #[.slice A r cA] 39)).alloc (.cells #[.slice none 0 0] 39)) := turn_trans (turn_alloc _ _) (turn_alloc _ _) (by omega)
  have zB : ((w.alloc (.cells #[.slice A r cA] 39)).alloc (.cells #[.slice none 0 0] 39)).heap.size = w.heap.size + 2 := by simp
  have q0 : ((w.alloc (.cells #[.slice A r cA] 39)).alloc (.cells #[.slice none 0 0] 39)).cell? ⟨w.heap.size, 0, none⟩ = some (.slice A r cA) := by simp
  have q1 : ((w.alloc (.cells #[.slice A r cA] 39)).alloc (.cells #[.slice none 0 0] 39)).cell? ⟨w.heap.size + 1, 0, none⟩ = some (.slice none 0 0) := by simp
  have q1f : ((w.alloc (.cells #[.slice A r cA] 39)).alloc (.cells #[.slice none 0 0] 39)).frozen? ⟨w.heap.size + 1, 0, none⟩ = false := by simp
  go_enter Tryd.func101, Tryd.ntmps101
  go_wp2_with (at_make; refine wpList_make_full _ rfl _ _ _ rfl (w.heap.size + 2) _ i0 _ 1 Tryd.underlying37 hi0 hz0 hz1 _ _ _ _ n rfl rfl rfl rfl ?b2 ?b3 ?b4 ?_)
  case b2 => rw [hz2]; omega
  case b3 => unfold maxLen; omega
  case b4 => rw [zB]; exact Nat.le_refl _
  intro w1 hown1 hg1
  generalize ((w.alloc (.cells #[.slice A r cA] 39)).alloc (.cells #[.slice none 0 0] 39)) = w2 at *
  have hb1 : Below w2.heap.size w2 w1 := below_of_grown hg1 (Nat.le_refl _) (by simp)
  rw [toList_madeCells_one] at hown1
  have hs1 := (hown1.lt (w.heap.size + 2) rfl).2
  have KB := Lib.hid kB
  have hzB : w.heap.size + 2 = w2.heap.size := zB.symm
  have HZB := Lib.hid hzB
  have hzle : w.heap.size + 2 ≤ w2.heap.size := by omega
  have hzge : w2.heap.size ≤ w.heap.size + 2 := by omega
  clear hg1 kB zB hzB
  go_wp2_with fail
  go_loopw [13] (fun i wr => ∃ k : Nat, k ≤ n ∧ i = .int .i64 k ∧ wr.ownsRow (w.heap.size + 2) 22 1 (.slice (some ⟨w.heap.size + 2, 0, none⟩) n n) n ((pickV vs nos).take k ++ List.replicate (n - k) (.slice none 0 0)) ∧ Below w2.heap.size w2 wr)
    (fun i _ => n - (intOf i).toNat)
  case atStart => exact ⟨0, Nat.zero_le _, rfl, by simpa using hown1, hb1⟩
  case round =>
    obtain ⟨k, hk, rfl, hown, hb⟩ := hrel
    have hbz := hb.size
    have HBW : Hid (Below w.heap.size w wr) := KB.out.to_below.trans (hb.mono (by omega))
    clear hown1 hb1
    by_cases hlt : k < n
    · have hki : (k : Int) < (n : Int) := by omega
      have hkl : k < nos.length := by rw [HN.out]; exact hlt
      obtain ⟨b, off, rfl, hbl, hcell⟩ := HXB.out (by omega)
      have hcx := (HBW.out.cell (p := ⟨b, off + k, none⟩) hbl).trans (hcell k _ (ints_get nos k hkl))
      have hh := HNO.out k hlt
      have eN : nos.getD k 0 = nos[k] := by simp [List.getD, hkl]
      rw [eN] at hh
      obtain ⟨m, hm⟩ := Int.eq_ofNat_of_zero_le hh.1
      rw [hm] at hcx hh
      have hmr : m < r := by omega
      obtain ⟨b', off', rfl, hbl', hcell'⟩ := HXA.out (by omega)
      have hvm : vs[m]? = some (vs[m]'(by rw [HVL.out]; exact hmr)) := List.getElem?_eq_getElem _
      obtain ⟨x, hx⟩ : ∃ x, x = vs[m]'(by rw [HVL.out]; exact hmr) := ⟨_, rfl⟩
      rw [← hx] at hvm
      have hcy := (HBW.out.cell (p := ⟨b', off' + m, none⟩) hbl').trans (hcell' m _ hvm)
      have hTk : (pickV vs nos)[k]? = some x := by
        have : (pickV vs nos)[k]? = some (vs.getD nos[k].toNat undef) := by simp [pickV, hkl]
        rw [this, hm]
        simp [List.getD, hvm]
      have HX1 : Hid (∃ A' n' c', x = .slice A' n' c') := HSL.out x m hvm
      obtain ⟨A', n', c', rfl⟩ := HX1.out
      have c0 := (hb.cell (p := ⟨w.heap.size, 0, none⟩) (show w.heap.size < w2.heap.size by omega)).trans q0
      have hwr := (hown.lt (w.heap.size + 2) rfl).2
      have hco : wr.cell? ⟨w.heap.size + 2, k, none⟩ = some (.slice none 0 0) := by
        have ht : ((pickV vs nos).take k).length = k := by simp [HN.out]; omega
        rw [hown.cellAt k (by omega), List.getElem?_append_right (by omega), ht, Nat.sub_self, List.getElem?_replicate, if_pos (by omega)]
      have hfr := hown.frozenAt k
      have hst := hown.stored k (.slice A' n' c')
      rw [take_set_next (pickV vs nos) _ k _ hTk (by simp [HN.out]; omega)] at hst
      have hst1 := hst.1
      have hb2 := hb.setCell (p := ⟨w.heap.size + 2, k, none⟩) (by show w2.heap.size ≤ w.heap.size + 2; omega) (.slice A' n' c')
      have hm0 : (0 : Int) ≤ (m : Int) := by omega
      have hmi : (m : Int) < (r : Int) := by omega
      clear hcell hcell' hst hTk hx hvm hm eN
      go_wp2_with fail
      go_roundw
      case rel => exact ⟨k + 1, by omega, by go_num, by simpa [Nat.sub_sub] using hst1, hb2⟩
      case measure => simp [intOf]; omega
    · obtain rfl : k = n := by omega
      have hki : ¬ (k : Int) < (k : Int) := by omega
      have r1 := (hb.cell (p := ⟨w.heap.size + 1, 0, none⟩) (show w.heap.size + 1 < w2.heap.size by omega)).trans q1
      have r1f := (hb.frozen (p := ⟨w.heap.size + 1, 0, none⟩) (show w.heap.size + 1 < w2.heap.size by omega)).trans q1f
      rw [List.take_of_length_le (by rw [HLP.out]; exact Nat.le_refl _), Nat.sub_self, List.replicate_zero, List.append_nil] at hown
      have HOWN := Lib.hid hown
      clear hown
      go_wp2_with fail
      refine bodyPost_ret (v := .agg #[.slice (some ⟨w.heap.size + 2, 0, none⟩) k k]) (by simp [results, Tryd.results101, go_sem, r1]) rfl ?_
      have hbf := HBW.out.setCell (p := ⟨w.heap.size + 1, 0, none⟩) (Nat.le_succ _) (.slice (some ⟨w.heap.size + 2, 0, none⟩) k k)
      refine ⟨_, _, _, rfl, HPS.out _ _ hbf ?_, TurnIn.of_below hbf⟩
      exact Seen.of_own (own_other HOWN.out (grown_set (w.heap.size + 1) 0 (.slice (some ⟨w.heap.size + 2, 0, none⟩) k k)) (fun g e e2 => by simp [Value.ownBlock] at e e2; omega))

end Go.Proofs.YtjgmegfbfjmnfaaDoor

/- EncodeShards: the program's. -/
namespace Go.Proofs.YtjgmegfbfjmnfaaDoor
open Go.RowKit Go.Shelf G294

attribute [local go_sem] Oper.semAt_some

end Go.Proofs.YtjgmegfbfjmnfaaDoor

/- sideBySide, multiplied, solved, fieldGrid, matrixOf. -/
namespace Go.Proofs.YtjgmegfbfjmnfaaDoor
open Go.RowKit G294

set_option maxRecDepth 100000 in
set_option maxHeartbeats 1000000 in
theorem sideAt (r n c Bw Bl Br : Nat) (F G : Ents) (v u : Value) (w : World) (hBw : Bw < w.heap.size) (hBl : Bl < w.heap.size) (hBr : Br < w.heap.size) (hn : n ≤ 1000) (hc : c ≤ 1000)
    (hw : w.cell? ⟨Bw, 0, none⟩ = some (.int .i64 n)) (hv : w.cell? ⟨Bl, 0, none⟩ = some v) (hu : w.cell? ⟨Br, 0, none⟩ = some u) (hs : SeenM w v (mkM r n F)) (ht : SeenM w u (mkM r c G)) :
    GivesAt Tryd.prog 129 #[.pointer (some ⟨Bw, 0, none⟩), .pointer (some ⟨Bl, 0, none⟩), .pointer (some ⟨Br, 0, none⟩)] r (n + c) (hcF n F G) w := by
  intro W i j hb hi hj
  have hw' := (hb.cell (p := ⟨Bw, 0, none⟩) hBw).trans hw
  have hv' := (hb.cell (p := ⟨Bl, 0, none⟩) hBl).trans hv
  have hu' := (hb.cell (p := ⟨Br, 0, none⟩) hBr).trans hu
  by_cases hjn : j < n
  · obtain ⟨bb, off, cp, b', off', c', rfl, hl1, h1, h2, h3, hl2, h4⟩ := (hs.below hb).cellF i j hi hjn
    have HF : Hid (hcF n F G i j = F i j) := if_pos hjn
    unfold maxLen at hl1 hl2
    have hi' : (i : Int) < (r : Int) := by omega
    have hj' : (j : Int) < (n : Int) := by omega
    clear hw hv hu hs ht hu'
    go_enter Tryd.func129, Tryd.ntmps129
    go_wp2_with fail
    go_ret
    exact ⟨by rw [HF.out]; rfl, 0, rfl⟩
  · obtain ⟨d, rfl⟩ : ∃ d, j = n + d := ⟨j - n, by omega⟩
    obtain ⟨bb, off, cp, b', off', c', rfl, hl1, h1, h2, h3, hl2, h4⟩ := (ht.below hb).cellF i d hi (by omega)
    have HF : Hid (hcF n F G i (n + d) = G i d) := by show hcF n F G i (n + d) = G i d; unfold hcF; rw [if_neg (by omega)]; congr 1; omega
    unfold maxLen at hl1 hl2
    have hi' : (i : Int) < (r : Int) := by omega
    have hi0 : (0 : Int) ≤ (i : Int) := Int.natCast_nonneg _
    have hd0 : (0 : Int) ≤ (d : Int) := Int.natCast_nonneg _
    have hd' : (d : Int) < (c : Int) := by omega
    obtain ⟨x, hx⟩ : ∃ x, x = n + d := ⟨_, rfl⟩
    rw [← hx] at HF hjn ⊢
    have hxx : IntKind.i64.wrap ((x : Int) - (n : Int)) = (d : Int) := by rw [IntWalk.i64_in _ (by omega)]; omega
    have hj' : ¬ (x : Int) < (n : Int) := by omega
    clear hw hv hu hs ht hv' hx hjn
    go_enter Tryd.func129, Tryd.ntmps129
    go_wp2_with fail
    go_quiet (fail)
    go_wp2_with fail
    go_ret
    exact ⟨by rw [HF.out]; rfl, _, rfl⟩

set_option maxRecDepth 100000 in
set_option maxHeartbeats 1000000 in
theorem solvedAt (r n c Bb Bn : Nat) (F : Ents) (v : Value) (w : World) (hBb : Bb < w.heap.size) (hBn : Bn < w.heap.size) (hn : n ≤ 1000) (hc : c ≤ 1000)
    (hv : w.cell? ⟨Bb, 0, none⟩ = some v) (hw : w.cell? ⟨Bn, 0, none⟩ = some (.int .i64 n)) (hs : SeenM w v (mkM r (n + c) F)) :
    GivesAt Tryd.prog 123 #[.pointer (some ⟨Bb, 0, none⟩), .pointer (some ⟨Bn, 0, none⟩)] r c (fun i j => F i (n + j)) w := by
  intro W i j hb hi hj
  have hw' := (hb.cell (p := ⟨Bn, 0, none⟩) hBn).trans hw
  have hv' := (hb.cell (p := ⟨Bb, 0, none⟩) hBb).trans hv
  obtain ⟨x, hx⟩ : ∃ x, x = n + j := ⟨_, rfl⟩
  obtain ⟨y, hy⟩ : ∃ y, y = n + c := ⟨_, rfl⟩
  rw [← hy] at hs
  obtain ⟨bb, off, cp, b', off', c', rfl, hl1, h1, h2, h3, hl2, h4⟩ := (hs.below hb).cellF i x hi (by omega)
  have HF : Hid (F i (n + j) = F i x) := by show F i (n + j) = F i x; rw [hx]
  unfold maxLen at hl1 hl2
  have hi' : (i : Int) < (r : Int) := by omega
  have hi0 : (0 : Int) ≤ (i : Int) := Int.natCast_nonneg _
  have hx0 : (0 : Int) ≤ (x : Int) := Int.natCast_nonneg _
  have hx' : (x : Int) < (y : Int) := by omega
  have hxx : IntKind.i64.wrap ((n : Int) + (j : Int)) = (x : Int) := by rw [IntWalk.i64_in _ (by omega)]; omega
  clear hw hv hs hx hy
  go_enter Tryd.func123, Tryd.ntmps123
  go_wp2_with fail
  go_quiet (fail)
  go_wp2_with fail
  go_ret
  exact ⟨by rw [HF.out]; rfl, _, rfl⟩

set_option maxHeartbeats 1000000 in
theorem fieldGrid_own (r c : Nat) (F : Ents) (v : Value) (w : World) (hs : SeenM w v (mkM r c F)) (hr : 1 ≤ r) (hr2 : r ≤ 1000) (hc : c ≤ 1000) :
    Calls Tryd.prog 112 #[.agg #[v]] w (RetM 144 155 w (mkM r c F)) := by
  have k1 : TurnIn 0 0 w (w.alloc (.cells #[v] 39)) := turn_alloc _ _
  have HS := Lib.hid (hs.touch k1)
  have K1 := Lib.hid k1
  obtain ⟨A, cp, hvv, _, _⟩ := hs.len
  rw [mkM_length] at hvv
  subst hvv
  clear hs k1
  go_enter Tryd.func112, Tryd.ntmps112
  go_wp2_with fail
  refine (convertedB r c F _ _ HS.out hr hr2 hc).mono ?_
  rintro e w' ⟨v', vs', rfl, hM, ht⟩
  go_wp2_with fail
  go_ret
  exact RetM.base ⟨_, _, rfl, hM, ht⟩ K1.out.to_below

set_option maxHeartbeats 1000000 in
theorem matrixOf_own (r c : Nat) (F : Ents) (v : Value) (w : World) (hs : SeenM w v (mkM r c F)) (hr : 1 ≤ r) (hr2 : r ≤ 1000) (hc : c ≤ 1000) :
    Calls Tryd.prog 114 #[v] w (RetMat 5 22 w (mkM r c F)) := by
  have k1 : TurnIn 0 0 w (w.alloc (.cells #[.slice none 0 0] 39)) := turn_alloc _ _
  have HS := Lib.hid (hs.touch k1)
  have K1 := Lib.hid k1
  obtain ⟨A, cp, hvv, _, _⟩ := hs.len
  rw [mkM_length] at hvv
  subst hvv
  clear hs k1
  go_enter Tryd.func114, Tryd.ntmps114
  go_wp2_with fail
  refine (convertedF r c F _ _ HS.out hr hr2 hc).mono ?_
  rintro e w' ⟨v', vs', rfl, hM, ht⟩
  obtain ⟨A', n', c', rfl⟩ := hM.isSlice
  have hq := cell_turn ht (B := w.heap.size) (o := 0) (x := .slice none 0 0) (by simp) (by simp)
  have hqf := frozen_turn ht (B := w.heap.size) (o := 0) (x := false) (by simp) (by simp)
  have HF := Lib.hid (ret_store K1.out.to_below hM ht w.heap.size 0 (Nat.le_refl _) (by simp) (.slice A' n' c'))
  clear hM ht
  go_wp2_with fail
  refine bodyPost_ret (v := .agg #[.slice A' n' c']) (by simp [results, Tryd.results114, go_sem, hq]) rfl ?_
  exact ⟨_, vs', rfl, HF.out.1, HF.out.2⟩
end Go.Proofs.YtjgmegfbfjmnfaaDoor

/- sideBySide and solved. -/
namespace G294
def solB (F : Ents) (n : Nat) : Bool := decide ((est F n n).2 = n)
end G294
namespace Go.Proofs.YtjgmegfbfjmnfaaDoor
open Go.RowKit G294

set_option maxRecDepth 100000 in
set_option maxHeartbeats 1000000 in
theorem sideBySide_own (r n c : Nat) (F G : Ents) (v u : Value) (w : World) (hs : SeenM w v (mkM r n F)) (hu : SeenM w u (mkM r c G)) (hr1 : 1 ≤ r) (hr : r ≤ 1000) (hn : n ≤ 400) (hc : c ≤ 400) :
    Calls Tryd.prog 120 #[v, u] w (RetM 144 155 w (mkM r (n + c) (hcF n F G))) := by
  have k3 : TurnIn 0 0 w (((w.alloc (.cells #[v] 141)).alloc (.cells #[u] 141)).alloc (.cells #[.int .i64 n] 3)) := turn_trans (turn_trans (turn_alloc _ _) (turn_alloc _ _) (by omega)) (turn_alloc _ _) (by omega)
  have z3 : (((w.alloc (.cells #[v] 141)).alloc (.cells #[u] 141)).alloc (.cells #[.int .i64 n] 3)).heap.size = w.heap.size + 3 := by simp
  have q1 : (((w.alloc (.cells #[v] 141)).alloc (.cells #[u] 141)).alloc (.cells #[.int .i64 n] 3)).cell? ⟨w.heap.size, 0, none⟩ = some v := cell_turn (turn_trans (turn_alloc _ _) (turn_alloc _ _) (by omega)) (show (w.alloc (.cells #[v] 141)).cell? ⟨w.heap.size, 0, none⟩ = some v by simp) (by simp)
  have q2 : (((w.alloc (.cells #[v] 141)).alloc (.cells #[u] 141)).alloc (.cells #[.int .i64 n] 3)).cell? ⟨w.heap.size + 1, 0, none⟩ = some u := alloc_mid_cell _ _ _ _ _
  have q3 : (((w.alloc (.cells #[v] 141)).alloc (.cells #[u] 141)).alloc (.cells #[.int .i64 n] 3)).cell? ⟨w.heap.size + 1 + 1, 0, none⟩ = some (.int .i64 n) := alloc_last_cell _ _ _ _ _
  have HG := Lib.hid (sideAt r n c (w.heap.size + 1 + 1) w.heap.size (w.heap.size + 1) F G v u _ (by omega) (by omega) (by omega) (by omega) (by omega) q3 q1 q2 (hs.touch k3) (hu.touch k3))
  obtain ⟨bb, off, cp, A1, c1, rfl, hl1, hbb, hrow0, hl2, _⟩ := hs.rowF 0 (by omega)
  obtain ⟨bb2, off2, cp2, A2, c2, rfl, hl3, hbb2, hrow2, hl4, _⟩ := hu.rowF 0 (by omega)
  rw [Nat.add_zero] at hrow0 hrow2
  have q5 := cell_turn k3 hrow2 hbb2
  have k2 : TurnIn 0 0 w ((w.alloc (.cells #[.slice (some ⟨bb, off, none⟩) r cp] 141)).alloc (.cells #[.slice (some ⟨bb2, off2, none⟩) r cp2] 141)) := turn_trans (turn_alloc _ _) (turn_alloc _ _) (by omega)
  have q6 := cell_turn k2 hrow0 hbb
  have K3 := Lib.hid k3
  have eg := enters_of Tryd.func129 (by kernel_rfl) rfl
  have hpos : 0 < r := hr1
  unfold maxLen at hl1 hl2 hl3 hl4
  clear hs hu k3 k2
  go_enter Tryd.func120, Tryd.ntmps120
  go_wp2_with fail
  generalize (((w.alloc (.cells #[.slice (some ⟨bb, off, none⟩) r cp] 141)).alloc (.cells #[.slice (some ⟨bb2, off2, none⟩) r cp2] 141)).alloc (.cells #[.int .i64 n] 3)) = w2 at *
  have Z3 := Lib.hid z3
  have hsum : IntKind.i64.wrap ((n : Int) + (c : Int)) = ((n + c : Nat) : Int) := by rw [IntWalk.i64_in _ (by omega)]; omega
  clear z3 q6
  go_region_held3 (fun w' => w'.cell? ⟨w.heap.size, 0, none⟩ = some (.slice (some ⟨bb, off, none⟩) r cp) ∧ w'.cell? ⟨w.heap.size + 1, 0, none⟩ = some (.slice (some ⟨bb2, off2, none⟩) r cp2) ∧ w'.cell? ⟨w.heap.size + 1 + 1, 0, none⟩ = some (.int .i64 n) ∧ w'.cell? ⟨bb2, off2, none⟩ = some (.slice A2 c c2))
    (first | exact ⟨q1, q2, q3, q5⟩ | exact ⟨y1, y2, y3, y5⟩)
    ((go_at_call 122; refine (newGridF r (n + c) _ _ _ w2.drew eg (HG.out.later (Below.refl _ _).drew) hr (by omega)).mono ?_; rintro e w' ⟨v', vs', rfl, hM, ht⟩; have z3 := Z3.out; have y1 := cell_turn ht (show w2.drew.cell? _ = _ from q1) (show _ < w2.heap.size by omega); have y2 := cell_turn ht (show w2.drew.cell? _ = _ from q2) (show _ < w2.heap.size by omega); have y3 := cell_turn ht (show w2.drew.cell? _ = _ from q3) (show _ < w2.heap.size by omega); have y5 := cell_turn ht (show w2.drew.cell? _ = _ from q5) (show _ < w2.heap.size by omega); clear z3))
  go_wp2_with fail
  go_ret
  exact RetM.base ⟨_, _, rfl, hM, ht⟩ K3.out.to_below.drew

def RetGridOk (E EE : TypeId) (w : World) (L : Mat) (ok : Bool) (e : Ending) (w' : World) : Prop := ∃ v vs, e = .returned (.tuple #[v, .bool ok]) ∧ OwnM E EE w' w.heap.size w'.heap.size v L vs ∧ TurnIn 0 0 w w'
abbrev solOk (F : Ents) (n : Nat) : Bool := solB F n
def solL (F G : Ents) (n c : Nat) : Mat := if solOk F n = true then mkM n c (bst F G n n) else []

set_option maxRecDepth 100000 in
set_option maxHeartbeats 2000000 in
theorem solved_own (n c : Nat) (F G : Ents) (v u : Value) (w : World) (hs : SeenM w v (mkM n n F)) (hu : SeenM w u (mkM n c G)) (hn1 : 1 ≤ n) (hn : n ≤ 400) (hc : c ≤ 400) (htab : Tab w) (h0 : 0 < w.heap.size) :
    Calls Tryd.prog 111 #[v, u] w (RetGridOk 144 155 w (solL F G n c) (solOk F n)) := by
  have k1 : TurnIn 0 0 w (w.alloc (.cells #[.int .i64 n] 3)) := turn_alloc _ _
  have q1 : (w.alloc (.cells #[.int .i64 n] 3)).cell? ⟨w.heap.size, 0, none⟩ = some (.int .i64 n) := by simp
  have z1 : (w.alloc (.cells #[.int .i64 n] 3)).heap.size = w.heap.size + 1 := by simp
  have HS := Lib.hid (hs.touch k1)
  have HU := Lib.hid (hu.touch k1)
  have HT := Lib.hid (htab.below k1.to_below h0)
  have hle := est_le F n n
  obtain ⟨A, cp, hvv, hl1, hl1'⟩ := hs.len
  rw [mkM_length] at hvv hl1
  obtain ⟨bb2, off2, cp2, A2, c2, rfl, hl3, hbb2, hrow2, hl4, _⟩ := hu.rowF 0 (by omega)
  rw [Nat.add_zero] at hrow2
  subst hvv
  have HR2 := Lib.hid hrow2
  have K1 := Lib.hid k1
  have hpos : 0 < n := hn1
  unfold maxLen at hl1' hl3 hl4
  clear hs hu htab k1 hrow2
  go_enter Tryd.func111, Tryd.ntmps111
  go_wp2_with fail
  generalize (w.alloc (.cells #[.int .i64 n] 3)) = w1 at *
  refine (sideBySide_own n n c F G _ _ _ HS.out HU.out hn1 (by omega) hn hc).mono ?_
  rintro e w2 ⟨y, vs, rfl, hM, ht⟩
  obtain ⟨g, cpb, rfl, hg1, hg2, hg3, hg4⟩ := hM.sliceF hn1
  have s2 := ht.size
  have p1 := cell_turn ht q1 (by omega)
  have k3 : TurnIn 0 0 w2 (w2.alloc (.cells #[.slice (some ⟨g, 0, none⟩) n cpb] 141)) := turn_alloc _ _
  have z3 : (w2.alloc (.cells #[.slice (some ⟨g, 0, none⟩) n cpb] 141)).heap.size = w2.heap.size + 1 := by simp
  have p2 := cell_turn k3 p1 (by omega)
  have p3 : (w2.alloc (.cells #[.slice (some ⟨g, 0, none⟩) n cpb] 141)).cell? ⟨w2.heap.size, 0, none⟩ = some (.slice (some ⟨g, 0, none⟩) n cpb) := by simp
  have HM := Lib.hid (hM.keep k3 (by omega))
  have K3 := Lib.hid (turn_trans ht k3 (by omega))
  have hT3 : Tab (w2.alloc (.cells #[.slice (some ⟨g, 0, none⟩) n cpb] 141)) := HT.out.below K3.out.to_below (by omega)
  have HT3 := Lib.hid hT3
  have Z3 := Lib.hid z3
  have hsz3 : w2.heap.size < (w2.alloc (.cells #[.slice (some ⟨g, 0, none⟩) n cpb] 141)).heap.size := by omega
  unfold maxLen at hg4
  clear hM ht k3 z3 p1 hT3 q1
  go_wp2_with fail
  generalize hw3 : (w2.alloc (.cells #[.slice (some ⟨g, 0, none⟩) n cpb] 141)) = w3 at *
  clear hw3
  have hgl : 0 < w1.heap.size := by omega
  go_region_held3 (fun w' => w'.cell? ⟨w.heap.size, 0, none⟩ = some (.int .i64 n) ∧ w'.cell? ⟨w2.heap.size, 0, none⟩ = some (.slice (some ⟨g, 0, none⟩) n cpb))
    (first | exact ⟨p2, p3⟩ | exact ⟨y2, y3⟩)
    ((go_at_call 121; refine (eliminate_any n (n + c) n _ _ (hcF n F G) _ vs w3.drew (HM.out.drewN 1) hn1 (by omega) (by omega) (by omega) HT3.out hgl).mono ?_; rintro e w4 ⟨vs4, rfl, hM4, hK4⟩; have y2 := (World.cell?_of_block (hK4.block w.heap.size (show w.heap.size < w3.heap.size by omega) (by omega))).trans (show w3.drew.cell? _ = _ from p2); have y3 := (World.cell?_of_block (hK4.block w2.heap.size (show w2.heap.size < w3.heap.size by omega) (by omega))).trans (show w3.drew.cell? _ = _ from p3)))
  rw [est_hc F G n n n (Nat.le_refl _)] at hM4 ⊢
  dsimp only at hM4 ⊢
  have kW4 : TurnIn 0 0 w w4 := turn_trans (turn_trans K1.out K3.out (by omega)) (⟨hK4.os, hK4.tape, hK4.output, hK4.size, hK4.block⟩ : TurnIn w1.heap.size w2.heap.size w3 w4) (by omega)
  have KW4 := Lib.hid kW4
  have s4 := hK4.size
  have s4' : w3.heap.size ≤ w4.heap.size := s4
  have hr4 := cell_turn kW4 HR2.out hbb2
  have HOK : Hid (solB F n = decide ((est F n n).2 = n)) := rfl
  have HLL : Hid (∀ b, solOk F n = b → solL F G n c = if b = true then mkM n c (bst F G n n) else []) := fun b h => by unfold solL; rw [h]
  have HG := Lib.hid (solvedAt n n c w2.heap.size w.heap.size (hcF n (est F n n).1 (bst F G n n)) _ w4 (by omega) (by omega) (by omega) (by omega) y3 y2 hM4.seen)
  have eg := enters_of Tryd.func123 (by kernel_rfl) rfl
  clear hM4 hK4 kW4 s4 p2 p3
  generalize (est F n n).2 = rk at *
  by_cases hrk : rk < n
  · have HO : Hid (solOk F n = false) := by show solB F n = false; rw [HOK.out]; simp; omega
    go_wp2_with fail
    go_ret2
    exact ⟨_, [], by rw [HO.out]; rfl, by rw [HLL.out false HO.out]; exact OwnM.nil _ _ _ _, KW4.out⟩
  · have HO : Hid (solOk F n = true) := by show solB F n = true; rw [HOK.out]; simp; omega
    have hd : decide (rk < n) = false := by simpa using hrk
    go_wp2_with fail
    go_region_held3 (fun w' => w'.cell? ⟨w.heap.size, 0, none⟩ = some (.int .i64 n) ∧ w'.cell? ⟨bb2, off2, none⟩ = some (.slice A2 c c2))
      (first | exact ⟨y2, hr4⟩ | exact ⟨x2, x3⟩)
      ((go_at_call 122; refine (newGridF n c _ _ _ w4.drew eg (HG.out.later (Below.refl _ _).drew) (by omega) (by omega)).mono ?_; rintro e w5 ⟨v5, vs5, rfl, hM5, ht5⟩; have x2 := cell_turn ht5 (show w4.drew.cell? _ = _ from y2) (show _ < w4.heap.size by omega); have x3 := cell_turn ht5 (show w4.drew.cell? _ = _ from hr4) (show _ < w4.heap.size by omega)))
    go_wp2_with fail
    go_ret2
    have hb5 := KW4.out.to_below.drew
    refine ⟨v5, vs5, by rw [HO.out]; rfl, ?_, turn_of_below hb5 ht5⟩
    rw [HLL.out true HO.out, if_pos rfl]
    exact (hM5.congr (mkM_congr fun i j _ _ => by unfold hcF; rw [if_neg (by omega)]; congr 1; omega)).wider hb5.size (Nat.le_refl _) (Nat.le_refl _)
end Go.Proofs.YtjgmegfbfjmnfaaDoor
