/- Joined texts: AppKeep, IntsWalks, Numbers, Keeps, Iter, EncMath, Split. -/
import Derived.Test.YtbfchebnooanjaaDoorBd00
import Derived.Maps.AppendAt
import Derived.Test.YtbfchebnooanjaaDoorBd03
import Derived.Test.YtbfchebnooanjaaDoorBd10
import Derived.Test.YtbfchebnooanjaaDoorBd07
import Derived.RangeFuncNested
import Derived.RangeFuncBound
import Derived.RangeFuncCalls
import Derived.RangeFuncLeaves
import Derived.Shelf.Abstract
import Derived.Shelf.RegionOpen
import Derived.WalkKit
import Derived.OwnWalkIn
import Derived.TacticsInMore
import Derived.LoopNIn
import Derived.LoopIn
import Derived.Test.YtbfchebnooanjaaDoorBd05
import Derived.Test.YtbfchebnooanjaaDoorBd09
set_option linter.unusedSimpArgs false
set_option linter.unusedVariables false
/- append(s, ..) where the old row s is read again afterwards: it stands as it was. -/
namespace G294
open Go Go.RowKit
theorem run_append_keep {P : Program} {w : World} (base : Nat) (t ty e : TypeId) (i : TypeInfo) (z : Value) (size bytes : Nat) (ht : P.underlying t = some (.slice e)) (hi : P.info? e = some i) (hz : i.zero = some z)
    (hsize : i.size = size) (hby : i.bytes = bytes) (hzs : z.cells.size = size) (hsz : 0 < size) (v : Value) (n : Nat) (xs : List Value) (hown : w.ownsRow base e size v n xs)
    (a : Addr) (m c : Nat) (news : List Value) (hl : news.length = m * size) (hnews : ∀ j u, news[j]? = some u → w.cell? (a.add j) = some u) (h1 : ∀ u ∈ news, u.oneCell' = true)
    (h63 : n + m ≤ maxLen) (hbytes : (n + m) * bytes ≤ 140737488355328) (hbase : base ≤ w.heap.size) :
    ∃ v' w', (Builtin.append_ #[t, t] ty #[v, .slice (some a) m c]).run P w = .ok v' w' ∧ w'.ownsRow base e size v' (n + m) (xs ++ news) ∧ w.grownBy w' v.ownBlock ∧
      (v'.ownBlock = v.ownBlock ∨ v'.ownBlock = some w.heap.size) ∧ w'.ownsRow base e size v n xs := by
  obtain ⟨v', w', hr, r1, r2, _, r4⟩ := run_append_own_at (P := P) w base t ty e i z size bytes ht hi hz hsize hby hzs hsz v n xs hown a m c news hl hnews h1 h63 hbytes hbase
  refine ⟨v', w', hr, r1, r2, r4, ?_⟩
  subst hsize
  have h63' : n + m ≤ 9223372036854775807 := by unfold maxLen at h63; omega
  obtain ⟨hx, hown2⟩ := hown
  rcases hown2 with ⟨rfl, rfl⟩ | ⟨g, cap, cur, rfl, hbg, hg, hnc, hcm, hcs, htk⟩
  · have h0 : xs = [] := List.eq_nil_of_length_eq_zero (by simpa using hx)
    subst h0
    exact World.ownsRow_nil _ _ _ _
  · by_cases hroom : n + m ≤ cap
    · have hfit : n * i.size + news.length ≤ cur.size := by
        have := Nat.mul_le_mul_right i.size hroom
        rw [Nat.add_mul] at this; omega
      have hr2 := run_append_room (P := P) w t ty e i ht hi g n cap cur hg a m c news hl hnews h1 hroom hfit
      rw [hr2] at hr
      simp only [Result.ok.injEq] at hr
      obtain ⟨rfl, rfl⟩ := hr
      have hcl : cur.toList.length = cap * i.size := by simpa using hcs
      refine ⟨hx, .inr ⟨g, cap, _, rfl, hbg, setRow_heap w g cur _ e _ hg, hnc, hcm, ?_, ?_⟩⟩
      · simp; omega
      · rw [htk]
        simp [hx]
    · have holds : ∀ j u, xs[j]? = some u → w.cell? ((⟨g, 0, none⟩ : Addr).add j) = some u := World.ownsRow.cells (g := g) ⟨hx, .inr ⟨g, cap, cur, rfl, hbg, hg, hnc, hcm, hcs, htk⟩⟩ rfl
      have hr2 := run_append_grow (P := P) w t ty e i z ht hi hz ⟨g, 0, none⟩ n cap xs hx holds a m c news hl hnews (by omega) (by omega) (growslice_fits (by omega) (by rw [hby]; exact hbytes))
      rw [hr2] at hr
      simp only [Result.ok.injEq] at hr
      obtain ⟨rfl, rfl⟩ := hr
      exact ⟨hx, .inr ⟨g, cap, cur, rfl, hbg, (Go.heap_alloc_old w.drew _ (Array.getElem?_eq_some_iff.1 hg).1).trans hg, hnc, hcm, hcs, htk⟩⟩
theorem wpList_appendKeep {P : Program} {w : World} {ops : Array Oper} {rest : List Oper} {o : Oper} {a : Act} {Q : Exit → Act → World → Prop} (hgd : o.guard = none) (s x : Operand) (t : TypeId)
    (ho : o.op = .call { callee := .builtin .append, args := #[s, x], argTypes := #[t, t] })
    (base : Nat) (e : TypeId) (z : Value) (size bytes : Nat) (ht : P.underlying t = some (.slice e)) (hinfo : (P.info? e).map (fun i => (i.zero, i.size, i.bytes)) = some (some z, size, bytes)) (hzs : z.cells.size = size) (hsz : 0 < size)
    (v : Value) (n : Nat) (xs : List Value) (hs : a.eval s = v) (hown : w.ownsRow base e size v n xs)
    (ad : Addr) (c : Nat) (news : List Value) (hx : a.eval x = .slice (some ad) 1 c) (hl : news.length = size) (hnews : ∀ j u, news[j]? = some u → w.cell? (ad.add j) = some u) (h1 : ∀ u ∈ news, u.oneCell' = true)
    (hn : n ≤ 1000000000) (hby : bytes ≤ 1000) (hbase : base ≤ w.heap.size)
    (h : ∀ v' w', w'.ownsRow base e size v' (n + 1) (xs ++ news) → w.grownBy w' v.ownBlock → (v'.ownBlock = v.ownBlock ∨ v'.ownBlock = some w.heap.size) → w'.ownsRow base e size v n xs → wpList P ops Q rest (a.put o.dst v') w') :
    wpList P ops Q (o :: rest) a w := by
  obtain ⟨i, hi, hz, hsi, hbs⟩ := info_parts hinfo
  have hb : (n + 1) * bytes ≤ 1000000001 * 1000 := Nat.mul_le_mul (by omega) hby
  refine wpList_plain hgd fun K hK => ?_
  obtain ⟨v', w', hr, h2, h3, h4, h5⟩ := run_append_keep (P := P) (w := w) base t o.type e i z size bytes ht hi hz hsi hbs hzs hsz v n xs hown ad 1 c news (by rw [hl, Nat.one_mul]) hnews h1 (by unfold maxLen; omega) (by omega) hbase
  unfold Oper.wp execOp
  simp only [ho, resolve, invoke, builtin, Sem.run_bind, Sem.run_pure, Result.andThen_ok, List.map_toArray, List.map_cons, List.map_nil, hs, hx, hr]
  exact hK _ _ (h v' w' h2 h3 h4 h5)
end G294

/- Contracts of the laws' helpers on []int: a copy, equality, marks, marks held. -/
namespace Go.Proofs.YtbfchebnooanjaaDoor
open Go.RowKit G294

theorem infoInt : (Tryd.prog.info? 3).map (fun i => (i.zero, i.size, i.bytes)) = some (some (.int .i64 0), 1, 8) := by kernel_rfl

theorem eq_atI {l m : List Int} {k : Nat} (hl : k < l.length) (hm : k < m.length) (h : l[k] ≠ m[k]) : (l == m) = false := by
  rw [beq_eq_false_iff_ne]
  intro e; subst e; exact h rfl

theorem eq_allI {l m : List Int} (hl : l.length = m.length) (h : ∀ i (h1 : i < l.length) (h2 : i < m.length), l[i] = m[i]) : (l == m) = true := by
  rw [beq_iff_eq]; exact List.ext_getElem hl h

end Go.Proofs.YtbfchebnooanjaaDoor

/- numbersOf and rowsAt, the program's. -/
namespace G294
open Go Go.RowKit
/-- the rows that numbers name -/
def pickM (L : Mat) (nos : List Int) : Mat := nos.map fun n => L.getD n.toNat []
/-- those rows as values -/
def pickV (vs : List Value) (nos : List Int) : List Value := nos.map fun n => vs.getD n.toNat undef
@[simp] theorem pickM_length (L : Mat) (nos : List Int) : (pickM L nos).length = nos.length := by simp [pickM]
@[simp] theorem pickV_length (vs : List Value) (nos : List Int) : (pickV vs nos).length = nos.length := by simp [pickV]
theorem pickM_mk {r c : Nat} {F : Ents} {nos : List Int} (h : ∀ i, i < nos.length → 0 ≤ nos.getD i 0 ∧ nos.getD i 0 < (r : Int)) : pickM (mkM r c F) nos = mkM nos.length c (fun i j => F (nos.getD i 0).toNat j) := by
  apply List.ext_getElem
  · simp
  · intro i h1 h2
    have hi : i < nos.length := by simpa using h1
    have hh := h i hi
    have e : nos.getD i 0 = nos[i] := by simp [List.getD, hi]
    rw [e] at hh
    have e2 : (mkM r c F).getD nos[i].toNat [] = mkRow c (F nos[i].toNat) := mkM_getD _ _ _ _ (by omega)
    simp only [pickM, List.getElem_map, e2]
    have e3 : nos[i]?.getD 0 = nos[i] := by simpa [List.getD] using e
    simp [mkM, e3]
theorem pick_seen {w w' : World} {u : Value} {L : Mat} {vs : List Value} {nos : List Int} (hl : vs.length = L.length) (hs : ∀ (i : Nat) (u : Value), vs[i]? = some u → Seen w u (bys (L.getD i [])))
    (hno : ∀ i, i < nos.length → 0 ≤ nos.getD i 0 ∧ nos.getD i 0 < (L.length : Int)) (hb : Below w.heap.size w w') (hu : Seen w' u (pickV vs nos)) : SeenM w' u (pickM L nos) := by
  refine ⟨pickV vs nos, by simp, hu, fun i x hx => ?_⟩
  have hi : i < nos.length := by have := (List.getElem?_eq_some_iff.1 hx).1; simpa using this
  have hh := hno i hi
  have e : nos.getD i 0 = nos[i] := by simp [List.getD, hi]
  rw [e] at hh
  have hlt : nos[i].toNat < vs.length := by omega
  have ex : x = vs[nos[i].toNat] := by
    have : (pickV vs nos)[i]? = some (vs.getD nos[i].toNat undef) := by simp [pickV, hi]
    rw [this] at hx
    have := Option.some.inj hx
    rw [← this]; simp [List.getD, hlt]
  have em : (pickM L nos).getD i [] = L.getD nos[i].toNat [] := by simp [pickM, List.getD, hi]
  rw [em, ex]
  exact (hs _ _ (List.getElem?_eq_getElem hlt)).below hb
/-- rows are seen, handed back -/
def RetSeenM (w : World) (L : Mat) (e : Ending) (w' : World) : Prop := ∃ A n c, e = .returned (.agg #[.slice A n c]) ∧ SeenM w' (.slice A n c) L ∧ TurnIn 0 0 w w'
end G294
namespace Go.Proofs.YtbfchebnooanjaaDoor
open Go.RowKit G294

set_option maxRecDepth 100000 in
set_option maxHeartbeats 1000000 in
theorem numbersOf_own (v : Value) (l : List Sh) (w : World) (hv : SeenH w v l) (hn : l.length ≤ 1048576) : Calls Tryd.prog 75 #[v] w (RetInts 3 w (l.map (·.1))) := by
  obtain ⟨i0, hi0, hz0, hz1, hz2⟩ := info_parts infoInt
  obtain ⟨A, c, rfl, hlc, hcm, hx⟩ := hv
  unfold maxLen at hcm
  have hlm : (l.map (·.1)).length = l.length := by simp
  generalize hT : l.map (·.1) = T at *
  have HTT := Lib.hid hT
  clear hT
  generalize hnn : l.length = n at *
  have HN := Lib.hid hnn
  have HLM := Lib.hid hlm
  clear hnn hlm
  go_enter Tryd.func75, Tryd.ntmps75
  go_wp2_with (at_make; refine wpList_make_full _ rfl _ _ _ rfl w.heap.size _ i0 _ 1 Tryd.underlying71 hi0 hz0 hz1 _ _ _ _ n rfl rfl rfl rfl ?b2 ?b3 ?b4 ?_)
  case b2 => rw [hz2]; omega
  case b3 => unfold maxLen; omega
  case b4 => exact Nat.le_refl _
  intro w1 hown1 hg1
  have hb1 : Below w.heap.size w w1 := below_of_grown hg1 (Nat.le_refl _) (by simp)
  rw [toList_madeCells_one] at hown1
  have hs1 := (hown1.lt w.heap.size rfl).2
  clear hg1
  go_wp2_with fail
  go_loopw [11] (fun i wr => ∃ k : Nat, k ≤ n ∧ i = .int .i64 k ∧ wr.ownsRow w.heap.size 3 1 (.slice (some ⟨w.heap.size, 0, none⟩) n n) n ((ints T).take k ++ List.replicate (n - k) (.int .i64 0)) ∧ Below w.heap.size w wr)
    (fun i _ => n - (intOf i).toNat)
  case atStart => exact ⟨0, Nat.zero_le _, rfl, by simpa using hown1, hb1⟩
  case round =>
    obtain ⟨k, hk, rfl, hown, hb⟩ := hrel
    clear hown1 hb1
    by_cases hlt : k < n
    · obtain ⟨b, off, rfl, hbl, hcell⟩ := hx (by omega)
      obtain ⟨⟨no, s⟩, hks⟩ := at_lt HN.out hlt
      have hc1 := (hb.cell (p := ⟨b, off + k * 2, none⟩) hbl).trans (hcell k _ hks).1
      have hc2 := (hb.cell (p := ⟨b, off + k * 2 + 1, none⟩) hbl).trans (hcell k _ hks).2
      simp only at hc1 hc2
      have hki : (k : Int) < (n : Int) := by omega
      have hTk : (ints T)[k]? = some (.int .i64 no) := by
        rw [← HTT.out]; simp [ints, hks]
      have HTK := Lib.hid hTk
      have hwr := (hown.lt w.heap.size rfl).2
      have hown2 := hown.alloc (.cells #[.int .i64 no, .string (str s)] 27)
      have hco : (wr.alloc (.cells #[.int .i64 no, .string (str s)] 27)).cell? ⟨w.heap.size, k, none⟩ = some (.int .i64 0) := by
        have ht : ((ints T).take k).length = k := by simp [HLM.out]; omega
        rw [hown2.cellAt k (by omega), List.getElem?_append_right (by omega), ht, Nat.sub_self, List.getElem?_replicate, if_pos (by omega)]
      have hfr := hown2.frozenAt k
      have hst := hown.stored k (.int .i64 no)
      rw [take_set_next (ints T) _ k _ hTk (by simp [HLM.out]; omega)] at hst
      have hst1 := hst.1.alloc (.cells #[.int .i64 no, .string (str s)] 27)
      have hb2 := (hb.setCell (p := ⟨w.heap.size, k, none⟩) (Nat.le_refl _) (.int .i64 no)).alloc (by have := hb.size; simp; omega) (.cells #[.int .i64 no, .string (str s)] 27)
      clear hcell hx hown2 hTk
      go_wp2_with fail
      go_roundw
      case rel => exact ⟨k + 1, by omega, by go_num, by simpa [Nat.sub_sub] using hst1, hb2⟩
      case measure => simp [intOf]; omega
    · obtain rfl : k = n := by omega
      have hki : ¬ (k : Int) < (k : Int) := by omega
      go_wp2_with fail
      go_ret
      refine ⟨_, rfl, OwnInts.of_made ?_, TurnIn.of_below hb⟩
      rw [List.take_of_length_le (by simp [HLM.out]), Nat.sub_self] at hown
      rw [HLM.out]
      simpa using hown

set_option maxRecDepth 100000 in
set_option maxHeartbeats 2000000 in
theorem rowsAt_seen (v : Value) (L : Mat) (u : Value) (nos : List Int) (w : World) (hm : SeenM w v L) (hu : Seen w u (ints nos)) (hn : nos.length ≤ 1048576) (hno : ∀ i, i < nos.length → 0 ≤ nos.getD i 0 ∧ nos.getD i 0 < (L.length : Int)) :
    Calls Tryd.prog 74 #[.agg #[v], u] w (RetSeenM w (pickM L nos)) := by
  obtain ⟨i0, hi0, hz0, hz1, hz2⟩ := info_parts infoRowB
  obtain ⟨vs, hvl, hsv, hrows⟩ := hm
  have HSL : Hid (∀ (x : Value) (m : Nat), vs[m]? = some x → ∃ A' n' c', x = .slice A' n' c') := fun x m hx => by
    obtain ⟨A', c', e, _⟩ := hrows m x hx
    exact ⟨A', _, c', e⟩
  have HPS : Hid (∀ (w' : World) (x : Value), Below w.heap.size w w' → Seen w' x (pickV vs nos) → SeenM w' x (pickM L nos)) := fun w' x hb hx => pick_seen hvl hrows hno hb hx
  obtain ⟨A, cA, rfl, hlA, hcA, hxA⟩ := hsv
  obtain ⟨B, cB, rfl, hlB, hcB, hxB⟩ := hu
  have hlp := pickV_length vs nos
  rw [ints_length] at hlB hxB
  simp only [ints_length]
  unfold maxLen at hcA hcB
  rw [hvl] at hlA hxA ⊢
  generalize hLL : L.length = r at *
  generalize hnn : nos.length = n at *
  have HN := Lib.hid hnn
  have HVL := Lib.hid hvl
  have HNO := Lib.hid hno
  have HXA := Lib.hid hxA
  have HXB := Lib.hid hxB
  have HLP := Lib.hid hlp
  clear hnn hLL hvl hno hrows hxA hxB hlp
  have kB : TurnIn 0 0 w ((w.alloc (.cells #[.slice A r cA] 67)).alloc (.cells #[.slice none 0 0] 67)) := turn_trans (turn_alloc _ _) (turn_alloc _ _) (by omega)
  have zB : ((w.alloc (.cells #[.slice A r cA] 67)).alloc (.cells #[.slice none 0 0] 67)).heap.size = w.heap.size + 2 := by simp
  have q0 : ((w.alloc (.cells #[.slice A r cA] 67)).alloc (.cells #[.slice none 0 0] 67)).cell? ⟨w.heap.size, 0, none⟩ = some (.slice A r cA) := by simp
  have q1 : ((w.alloc (.cells #[.slice A r cA] 67)).alloc (.cells #[.slice none 0 0] 67)).cell? ⟨w.heap.size + 1, 0, none⟩ = some (.slice none 0 0) := by simp
  have q1f : ((w.alloc (.cells #[.slice A r cA] 67)).alloc (.cells #[.slice none 0 0] 67)).frozen? ⟨w.heap.size + 1, 0, none⟩ = false := by simp
  go_enter Tryd.func74, Tryd.ntmps74
  go_wp2_with (at_make; refine wpList_make_full _ rfl _ _ _ rfl (w.heap.size + 2) _ i0 _ 1 Tryd.underlying65 hi0 hz0 hz1 _ _ _ _ n rfl rfl rfl rfl ?b2 ?b3 ?b4 ?_)
  case b2 => rw [hz2]; omega
  case b3 => unfold maxLen; omega
  case b4 => rw [zB]; exact Nat.le_refl _
  intro w1 hown1 hg1
  generalize ((w.alloc (.cells #[.slice A r cA] 67)).alloc (.cells #[.slice none 0 0] 67)) = w2 at *
  have hb1 : Below w2.heap.size w2 w1 := below_of_grown hg1 (Nat.le_refl _) (by simp)
  rw [toList_madeCells_one] at hown1
  have hs1 := (hown1.lt (w.heap.size + 2) rfl).2
  have KB := Lib.hid kB
  have hzB : w.heap.size + 2 = w2.heap.size := zB.symm
  have HZB := Lib.hid hzB
  have hzle : w.heap.size + 2 ≤ w2.heap.size := by omega
  have hzge : w2.heap.size ≤ w.heap.size + 2 := by omega
  clear hg1 kB zB hzB
  go_wp2_with fail
  go_loopw [13] (fun i wr => ∃ k : Nat, k ≤ n ∧ i = .int .i64 k ∧ wr.ownsRow (w.heap.size + 2) 22 1 (.slice (some ⟨w.heap.size + 2, 0, none⟩) n n) n ((pickV vs nos).take k ++ List.replicate (n - k) (.slice none 0 0)) ∧ Below w2.heap.size w2 wr)
    (fun i _ => n - (intOf i).toNat)
  case atStart => exact ⟨0, Nat.zero_le _, rfl, by simpa using hown1, hb1⟩
  case round =>
    obtain ⟨k, hk, rfl, hown, hb⟩ := hrel
    have hbz := hb.size
    have HBW : Hid (Below w.heap.size w wr) := KB.out.to_below.trans (hb.mono (by omega))
    clear hown1 hb1
    by_cases hlt : k < n
    · have hki : (k : Int) < (n : Int) := by omega
      have hkl : k < nos.length := by rw [HN.out]; exact hlt
      obtain ⟨b, off, rfl, hbl, hcell⟩ := HXB.out (by omega)
      have hcx := (HBW.out.cell (p := ⟨b, off + k, none⟩) hbl).trans (hcell k _ (ints_get nos k hkl))
      have hh := HNO.out k hlt
      have eN : nos.getD k 0 = nos[k] := by simp [List.getD, hkl]
      rw [eN] at hh
      obtain ⟨m, hm⟩ := Int.eq_ofNat_of_zero_le hh.1
      rw [hm] at hcx hh
      have hmr : m < r := by omega
      obtain ⟨b', off', rfl, hbl', hcell'⟩ := HXA.out (by omega)
      have hvm : vs[m]? = some (vs[m]'(by rw [HVL.out]; exact hmr)) := List.getElem?_eq_getElem _
      obtain ⟨x, hx⟩ : ∃ x, x = vs[m]'(by rw [HVL.out]; exact hmr) := ⟨_, rfl⟩
      rw [← hx] at hvm
      have hcy := (HBW.out.cell (p := ⟨b', off' + m, none⟩) hbl').trans (hcell' m _ hvm)
      have hTk : (pickV vs nos)[k]? = some x := by
        have : (pickV vs nos)[k]? = some (vs.getD nos[k].toNat undef) := by simp [pickV, hkl]
        rw [this, hm]
        simp [List.getD, hvm]
      have HX1 : Hid (∃ A' n' c', x = .slice A' n' c') := HSL.out x m hvm
      obtain ⟨A', n', c', rfl⟩ := HX1.out
      have c0 := (hb.cell (p := ⟨w.heap.size, 0, none⟩) (show w.heap.size < w2.heap.size by omega)).trans q0
      have hwr := (hown.lt (w.heap.size + 2) rfl).2
      have hco : wr.cell? ⟨w.heap.size + 2, k, none⟩ = some (.slice none 0 0) := by
        have ht : ((pickV vs nos).take k).length = k := by simp [HN.out]; omega
        rw [hown.cellAt k (by omega), List.getElem?_append_right (by omega), ht, Nat.sub_self, List.getElem?_replicate, if_pos (by omega)]
      have hfr := hown.frozenAt k
      have hst := hown.stored k (.slice A' n' c')
      rw [take_set_next (pickV vs nos) _ k _ hTk (by simp [HN.out]; omega)] at hst
      have hst1 := hst.1
      have hb2 := hb.setCell (p := ⟨w.heap.size + 2, k, none⟩) (by show w2.heap.size ≤ w.heap.size + 2; omega) (.slice A' n' c')
      have hm0 : (0 : Int) ≤ (m : Int) := by omega
      have hmi : (m : Int) < (r : Int) := by omega
      clear hcell hcell' hst hTk hx hvm hm eN
      go_wp2_with fail
      go_roundw
      case rel => exact ⟨k + 1, by omega, by go_num, by simpa [Nat.sub_sub] using hst1, hb2⟩
      case measure => simp [intOf]; omega
    · obtain rfl : k = n := by omega
      have hki : ¬ (k : Int) < (k : Int) := by omega
      have r1 := (hb.cell (p := ⟨w.heap.size + 1, 0, none⟩) (show w.heap.size + 1 < w2.heap.size by omega)).trans q1
      have r1f := (hb.frozen (p := ⟨w.heap.size + 1, 0, none⟩) (show w.heap.size + 1 < w2.heap.size by omega)).trans q1f
      rw [List.take_of_length_le (by rw [HLP.out]; exact Nat.le_refl _), Nat.sub_self, List.replicate_zero, List.append_nil] at hown
      have HOWN := Lib.hid hown
      clear hown
      go_wp2_with fail
      refine bodyPost_ret (v := .agg #[.slice (some ⟨w.heap.size + 2, 0, none⟩) k k]) (by simp [results, Tryd.results74, go_sem, r1]) rfl ?_
      have hbf := HBW.out.setCell (p := ⟨w.heap.size + 1, 0, none⟩) (Nat.le_succ _) (.slice (some ⟨w.heap.size + 2, 0, none⟩) k k)
      refine ⟨_, _, _, rfl, HPS.out _ _ hbf ?_, TurnIn.of_below hbf⟩
      exact Seen.of_own (own_other HOWN.out (grown_set (w.heap.size + 1) 0 (.slice (some ⟨w.heap.size + 2, 0, none⟩) k k)) (fun g e e2 => by simp [Value.ownBlock] at e e2; omega))

end Go.Proofs.YtbfchebnooanjaaDoor

/- What a round of a range over a function keeps. -/
namespace G294
open Go Go.RowKit
/-- what lies below n₀, but for one block, is as it was -/
structure KeepBut (n₀ Bs : Nat) (W W' : World) : Prop where
  os : W'.os = W.os
  tape : W'.tape = W.tape
  output : W'.output = W.output
  size : W.heap.size ≤ W'.heap.size
  block : ∀ k, k < n₀ → k ≠ Bs → W'.heap[k]? = W.heap[k]?
theorem KeepBut.trans {n₀ Bs : Nat} {A B C : World} (h : KeepBut n₀ Bs A B) (k : KeepBut n₀ Bs B C) : KeepBut n₀ Bs A C :=
  ⟨k.os.trans h.os, k.tape.trans h.tape, k.output.trans h.output, Nat.le_trans h.size k.size, fun i hi hne => (k.block i hi hne).trans (h.block i hi hne)⟩
theorem KeepBut.refl (n₀ Bs : Nat) (W : World) : KeepBut n₀ Bs W W := ⟨rfl, rfl, rfl, Nat.le_refl _, fun _ _ _ => rfl⟩
theorem KeepBut.of_below {n₀ Bs : Nat} {W W' : World} (h : Below n₀ W W') : KeepBut n₀ Bs W W' := ⟨h.os, h.tape, h.output, h.size, fun k hk _ => h.block k hk⟩
theorem KeepBut.putObj {n₀ Bs : Nat} {w : World} (hn : n₀ ≤ w.heap.size) (W : World) (l : Nat) (o o' : Obj) (hl : w.heap.size ≤ l) (h : W.heap[l]? = some o) (h1 : o.isCells = false) (h2 : o.isWalk = false) : KeepBut n₀ Bs W (W.putObj l o') :=
  KeepBut.of_below (belowK_b hn W l o o' hl h h1 h2)
theorem KeepBut.cell {n₀ Bs B o : Nat} {W W' : World} (h : KeepBut n₀ Bs W W') (hB : B < n₀) (hne : B ≠ Bs) : W'.cell? ⟨B, o, none⟩ = W.cell? ⟨B, o, none⟩ := World.cell?_of_block (h.block B hB hne)
theorem KeepBut.below {n₀ Bs e : Nat} {w W W' : World} (h : KeepBut n₀ Bs W W') (hb : Below e w W) (h1 : e ≤ Bs) (h2 : e ≤ n₀) : Below e w W' :=
  ⟨h.os.trans hb.os, h.tape.trans hb.tape, h.output.trans hb.output, Nat.le_trans hb.size h.size, fun k hk => (h.block k (by omega) (by omega)).trans (hb.block k hk)⟩
theorem owns_agree {w w' : World} {lo hi size n : Nat} {E : TypeId} {v : Value} {xs : List Value} (h : w.ownsRow lo E size v n xs) (h2 : ∀ g, v.ownBlock = some g → g < hi) (hb : ∀ k, lo ≤ k → k < hi → w'.heap[k]? = w.heap[k]?) : w'.ownsRow lo E size v n xs := by
  refine ⟨h.1, ?_⟩
  rcases h.2 with hn | ⟨g, cap, cur, rfl, hbg, hg, rest⟩
  · exact .inl hn
  · refine .inr ⟨g, cap, cur, rfl, hbg, ?_, rest⟩
    rw [hb g hbg (h2 g rfl)]
    exact hg
/-- one more element in a boxed row that a loop collects -/
theorem collect_step {W w1 : World} {n₀ Bs e0 size : Nat} {t e : TypeId} {v v' : Value} {k mm : Nat} {xs ys : List Value} {tmp : Obj} (hv : Boxed W Bs t v) (hte : t ≠ e) (hrow : W.ownsRow n₀ e size v k xs)
    (hown' : w1.ownsRow n₀ e size v' mm ys) (hgrow : (W.alloc tmp).grownBy w1 v.ownBlock) (h1 : e0 ≤ Bs) (h2 : Bs < n₀) (h3 : n₀ ≤ W.heap.size) :
    Boxed w1 Bs t v ∧ Boxed (w1.setCell ⟨Bs, 0, none⟩ v') Bs t v' ∧ (w1.setCell ⟨Bs, 0, none⟩ v').ownsRow n₀ e size v' mm ys ∧ KeepsOthers W (w1.setCell ⟨Bs, 0, none⟩ v') ∧ KeepBut n₀ Bs W (w1.setCell ⟨Bs, 0, none⟩ v') ∧ n₀ ≤ (w1.setCell ⟨Bs, 0, none⟩ v').heap.size := by
  obtain ⟨hv1, hv2, hr2, hk2, hb2⟩ := hv.appended (n₀ := e0) hte (own_base hrow (by omega)) (by omega) h1 (own_base hown' (by omega)) hgrow
  have hs := hgrow.size
  have hsa := World.size_alloc W tmp
  refine ⟨hv1, hv2, hown'.kept (grownBy_setCell' w1 Bs v') (.inr (fun e' => by have := (hown'.lt Bs e').1; omega)), hk2, ⟨hb2.os, hb2.tape, hb2.output, hb2.size, fun j hj hne => ?_⟩, by simp; omega⟩
  have t1 := (grownBy_setCell' w1 Bs v').block j (by omega) (fun e' => hne (by cases e'; rfl))
  have t2 := hgrow.block j (by omega) (fun e' => by have := (hrow.lt j e'.symm).1; omega)
  have t3 := (turn_alloc W tmp).block j (by omega) (by omega)
  exact t1.trans (t2.trans t3)
end G294

/- shardsBy: the iterator over the shards that a matrix makes of texts. -/
namespace G294
open Go Go.RowKit
/-- the shards that a matrix makes of texts -/
def shardsF (r c n : Nat) (F : Ents) (T : List (List UInt8)) : List Sh := (List.range r).map fun (i : Nat) => (((i : Nat) : Int), comb c n (F i) T)
@[simp] theorem shardsF_length (r c n : Nat) (F : Ents) (T : List (List UInt8)) : (shardsF r c n F T).length = r := by simp [shardsF]
theorem shardsF_take (r c n : Nat) (F : Ents) (T : List (List UInt8)) (k : Nat) (h : k < r) : (shardsF r c n F T).take (k + 1) = (shardsF r c n F T).take k ++ [((k : Int), comb c n (F k) T)] := by
  rw [List.take_succ_eq_append_getElem (by simpa using h)]; simp [shardsF]
/-- a shard as a value -/
def shV (x : Sh) : Value := .agg #[.int .i64 x.1, .string (str x.2)]
theorem OwnM.agree {E EE : TypeId} {w w' : World} {lo hi : Nat} {v : Value} {L : Mat} {vs : List Value} (h : OwnM E EE w lo hi v L vs) (hs : w.heap.size ≤ w'.heap.size) (hb : ∀ k, lo ≤ k → k < hi → w'.heap[k]? = w.heap[k]?) : OwnM E EE w' lo hi v L vs :=
  ⟨owns_agree h.row h.out hb, Nat.le_trans h.top hs, h.out, fun i u hu => ⟨owns_agree (h.rows i u hu).1 (h.rows i u hu).2.2 hb, Nat.le_trans h.top hs, (h.rows i u hu).2.2⟩, h.apart⟩
theorem OwnStrs.agree {E : TypeId} {w w' : World} {lo hi : Nat} {v : Value} {l : List (List UInt8)} (h : OwnStrs E w lo hi v l) (hs : w.heap.size ≤ w'.heap.size) (hb : ∀ k, lo ≤ k → k < hi → w'.heap[k]? = w.heap[k]?) : OwnStrs E w' lo hi v l :=
  ⟨owns_agree h.1 h.2.2 hb, Nat.le_trans h.2.1 hs, h.2.2⟩
end G294
namespace Go.Proofs.YtbfchebnooanjaaDoor
open Go.RowKit Go.Shelf G294

attribute [local go_sem] Oper.semAt_some

set_option maxRecDepth 100000 in
set_option maxHeartbeats 1000000 in
/-- shardsBy boxes its arguments and hands back the function -/
theorem shardsBy_any (vm : Value) (At : Option Addr) (nt ct : Nat) (w : World) : Calls Tryd.prog 57 #[.agg #[vm], .slice At nt ct] w fun e w' => e = .returned (.func (.func 83) #[] #[.pointer (some ⟨w.heap.size, 0, none⟩), .pointer (some ⟨w.heap.size + 1, 0, none⟩)]) ∧
    w' = (w.alloc (.cells #[vm] 67)).alloc (.cells #[.slice At nt ct] 35) := by
  go_enter Tryd.func57, Tryd.ntmps57
  go_wp2_with fail
  go_ret
  exact ⟨rfl, rfl⟩

set_option maxRecDepth 100000 in
set_option maxHeartbeats 4000000 in
theorem shardsBy_stops (nF r c n Bm Bt : Nat) (F : Ents) (T : List (List UInt8)) (vm vt : Value) (w : World) (Kp : World → World → Prop) (Inv : World → Prop) (hc : T.length = c) (hc1 : 1 ≤ c) (hcc : c ≤ 1000) (hr : r ≤ 1000)
    (hn : ∀ j, j < c → (T.getD j []).length = n) (hn2 : n ≤ 1000)
    (hInv : ∀ W, Inv W → (W.cell? ⟨Bm, 0, none⟩ = some vm ∧ W.cell? ⟨Bt, 0, none⟩ = some vt) ∧ (SeenM W vm (mkM r c F) ∧ Seen W vt (strs T)) ∧ Tab W ∧ 0 < W.heap.size)
    (hKp : ∀ W W', Inv W → Kp W W' → Inv W') (hBel : ∀ W W', Inv W → Below W.heap.size W W' → Inv W') (hw : ∀ W, Below w.heap.size w W → Inv W) (hnF : 1 ≤ nF) :
    SeqStopsK Fence.wide nF Tryd.prog 83 #[.pointer (some ⟨Bm, 0, none⟩), .pointer (some ⟨Bt, 0, none⟩)] (fun x : Sh => #[shV x]) Kp (fun xs => xs = shardsF r c n F T) (fun pre => pre <+: shardsF r c n F T) r w := by
  intro l J Jx W hW hJ hJx hY h0
  have hiv := hw W hW
  obtain ⟨⟨cm, ct⟩, ⟨sm, st⟩, tb, hrm⟩ := hInv W hiv
  obtain ⟨A, cp, rfl, hlc, hcm⟩ := sm.len
  rw [mkM_length] at hlc
  unfold maxLen at hcm
  rw [mkM_length] at *
  have HINV := Lib.hid hInv
  have HKP := Lib.hid hKp
  have HBEL := Lib.hid hBel
  have HY := Lib.hid hY
  clear hInv hKp hBel hY st tb sm hw
  refine callsIn_of_wp Tryd.func83 rfl trivial ?_ rfl
  simp only [Tryd.ntmps83, List.size_toArray, List.length_cons, List.length_nil, Nat.reduceAdd, Nat.reduceSub, Array.replicate_succ, Array.replicate_zero, List.push_toArray, List.append_toArray, List.nil_append, List.cons_append]
  gi_wp2_with fail
  gi_loopw [9] (fun i wr => ∃ k : Nat, k ≤ r ∧ i = .int .i64 k ∧ Inv wr ∧ J ((shardsF r c n F T).take k) wr) (fun i _ => r - (intOf i).toNat)
  case atStart => exact ⟨0, Nat.zero_le _, rfl, hiv, h0⟩
  case round =>
    obtain ⟨k, hk, rfl, hi, hj⟩ := hrel
    clear hiv h0 cm ct hrm
    by_cases hlt : k < r
    · have hki : (k : Int) < (r : Int) := by omega
      obtain ⟨⟨cm, ct⟩, ⟨sm, st⟩, tb, hrm⟩ := HINV.out _ hi
      obtain ⟨bb, off, c9, A1, c1, hvv, _, hbb, hcx, hc9, hsr⟩ := sm.rowF k hlt
      simp only [Value.slice.injEq] at hvv
      obtain ⟨rfl, z9, rfl⟩ := hvv
      have HSR := Lib.hid hsr
      have HST := Lib.hid st
      have HTB := Lib.hid tb
      have HHN := Lib.hid hn
      clear z9 sm st tb hsr hn
      gi_wp2_with fail
      refine ⟨trivial, ?_⟩
      refine (callsIn_wide.2 (combined_own c n (F k) T _ _ _ HSR.out HST.out hc hc1 hcc HHN.out hn2 HTB.out hrm)).mono ?_
      rintro e w2 ⟨rfl, k2⟩
      have hi2 := HBEL.out _ _ hi k2.to_below
      have hj2 := hJ _ _ w2 none hj (grown_of_below k2.to_below) (fun r e => by cases e)
      have hs2 := k2.size
      obtain ⟨fn, tmps, assign, body, hy, hR⟩ := HY.out _ ((k : Int), comb c n (F k) T) w2 hj2 (by rw [List.length_take, shardsF_length]; omega)
      have HR := Lib.hid hR
      have hpre : (shardsF r c n F T).take k ++ [((k : Int), comb c n (F k) T)] = (shardsF r c n F T).take (k + 1) := (shardsF_take r c n F T k hlt).symm
      have HPRE := Lib.hid hpre
      simp only [shV] at hy
      clear hR hpre cm ct hcx k2
      gi_wp2_with fail
      refine HR.out.mono ?_
      rintro e W3 (⟨rfl, hJ3, hk3⟩ | ⟨rfl, hJx3⟩)
      · have hi3 := HKP.out _ _ hi2 hk3
        rw [HPRE.out] at hJ3
        gi_wp2_with fail
        go_roundw
        case rel => exact ⟨k + 1, by omega, by go_num, hi3, hJ3⟩
        case measure => simp [intOf]; omega
      · gi_wp2_with fail
        refine bodyPost_ret (results_none rfl _ _ _) rfl ?_
        exact ⟨⟨_, rfl⟩, .inr ⟨_, by rw [HPRE.out]; exact List.take_prefix _ _, hJx3⟩⟩
    · obtain rfl : k = r := by omega
      have hki : ¬ (k : Int) < (k : Int) := by omega
      gi_wp2_with fail
      go_end0
      exact ⟨⟨_, rfl⟩, .inl (by rw [List.take_of_length_le (by simp)] at hj; exact hj)⟩

end Go.Proofs.YtbfchebnooanjaaDoor

/- The mathematics of EncodeShards. -/
namespace G294
open Go Go.RowKit
def encOk (T : List (List UInt8)) (m : Int) : Bool := shapeOk T.length m && textsOk T
def encL (k m : Nat) (T : List (List UInt8)) : List Sh := shardsF (k + m) k (T.getD 0 []).length (codF k) T
def encR (T : List (List UInt8)) (m : Int) : List Sh := if encOk T m then encL T.length m.toNat T else []
theorem encR_no {T : List (List UInt8)} {m : Int} (h : encOk T m = false) : encR T m = [] := by unfold encR; rw [if_neg (by rw [h]; simp)]
theorem encR_yes {T : List (List UInt8)} {m : Nat} (h : encOk T m = true) : encR T m = encL T.length m T := by unfold encR; rw [if_pos h]; simp
theorem textsOk_at {T : List (List UInt8)} (h : textsOk T = true) : ∀ j, j < T.length → (T.getD j []).length = (T.getD 0 []).length := fun j hj => by
  have := ((textsOk_iff T).1 h j hj).1
  rw [← this]; simp [List.getD, hj]
theorem encR_len (T : List (List UInt8)) (m : Int) : (encR T m).length ≤ 14 := by
  unfold encR; split
  · rename_i h
    simp only [encOk, Bool.and_eq_true] at h
    have := shapeOk_b h.1
    simp [encL]; omega
  · simp
end G294

/- SplitText: the model's and the program's. -/
namespace Go.Proofs.YtbfchebnooanjaaDoor
open Go.RowKit G294

set_option maxRecDepth 100000 in
set_option maxHeartbeats 2000000 in
theorem l3Split_own (s : List UInt8) (k : Nat) (w : World) (h1 : 1 ≤ k) (h8 : k ≤ 8) (hs : s.length ≤ k * 40) : Calls Tryd.prog 37 #[.string (str s), .int .i64 k] w (RetStrs 9 w (splitL s k)) := by
  obtain ⟨i0, hi0, hz0, hz1, hz2⟩ := info_parts infoByte
  have hps := partSize_le s.length k h1 hs
  have hpm := partSize_mul s.length k h1
  have HL := Lib.hid (padded_length s k h1)
  have hsz := str_size s
  have hkz : (k : Int) ≠ 0 := by omega
  have hdiv : ((s.length : Int) + (k : Int) - 1) / (k : Int) = ((partSize s.length k : Nat) : Int) := by
    unfold partSize
    have : ((s.length + k - 1 : Nat) : Int) = (s.length : Int) + (k : Int) - 1 := by omega
    rw [Int.natCast_ediv, this]
  obtain ⟨z, hz⟩ : ∃ z, z = partSize s.length k := ⟨_, rfl⟩
  rw [← hz] at hps hpm hdiv
  have HZ := Lib.hid hz
  clear hz
  obtain ⟨n, hn⟩ : ∃ n, n = s.length := ⟨_, rfl⟩
  rw [← hn] at hs hpm hsz hdiv
  have HN := Lib.hid hn
  clear hn
  obtain ⟨kz, hkz'⟩ : ∃ kz, kz = k * z := ⟨_, rfl⟩
  have hkb : kz ≤ 320 := by rw [hkz']; exact Nat.mul_le_mul h8 hps
  have hkm : (k : Int) * (z : Int) = (kz : Int) := by rw [hkz']; exact (Int.natCast_mul k z).symm
  rw [← hkz'] at hpm
  have HKZ := Lib.hid hkz'
  clear hkz'
  have hsub : (kz : Int) - (n : Int) = ((kz - n : Nat) : Int) := by omega
  have hpad : str s ++ str (List.replicate (kz - n) 0) = str (padded s k) := by
    rw [str_append, padded, ← HZ.out, ← HN.out, ← HKZ.out]
  have hpl : (str (padded s k)).size = kz := by rw [str_size, HL.out, ← HZ.out, HKZ.out]
  have hsm : ¬ 9223372036854775807 < n + (str (List.replicate (kz - n) 0)).size := by rw [str_size]; simp; omega
  go_enter Tryd.func37, Tryd.ntmps37
  go_wp2_with (at_make; refine wpList_make_full _ rfl _ _ _ rfl w.heap.size _ i0 _ 1 Tryd.underlying22 hi0 hz0 hz1 _ _ _ _ (kz - n) rfl rfl (by first | rfl | exact hsub) (by first | rfl | exact hsub) ?b2 ?b3 ?b4 ?_)
  case b2 => rw [hz2]; omega
  case b3 => unfold maxLen; omega
  case b4 => exact Nat.le_refl _
  intro w1 hown1 hg1
  have hb1 : Below w.heap.size w w1 := below_of_grown hg1 (Nat.le_refl _) (by simp)
  rw [toList_madeCells_one] at hown1
  have hseen : Seen w1 (.slice (some ⟨w.heap.size, 0, none⟩) (kz - n) (kz - n)) (bys (List.replicate (kz - n) 0)) := by
    have e : bys (List.replicate (kz - n) 0) = List.replicate (kz - n) (.int .u8 0) := by simp [bys, List.map_replicate]
    rw [e]; exact Seen.of_own hown1
  have hconv := run_string_seen (P := Tryd.prog) 22 5 9 Tryd.underlying22 Tryd.underlying5 Tryd.underlying9 hseen
  clear hg1 hown1 hseen
  go_wp2_with fail
  clear hconv hdiv hpad hsub
  go_loopw [6, 7] (fun o i wr => ∃ m : Nat, m ≤ k ∧ i = .int .i64 m ∧ wr.ownsRow w.heap.size 9 1 o m (strs ((List.range m).map (splitP s k))) ∧ Below w.heap.size w wr)
    (fun _ i _ => k - (intOf i).toNat)
  case atStart => exact ⟨0, Nat.zero_le _, rfl, World.ownsRow_nil _ _ _ _, hb1⟩
  case round =>
    obtain ⟨m, hm, rfl, hown, hb⟩ := hrel
    by_cases hlt : m < k
    · have hki : (m : Int) < (k : Int) := by omega
      have hmz1 : (m + 1) * z ≤ k * z := Nat.mul_le_mul_right _ hlt
      obtain ⟨mz, hmz⟩ : ∃ mz, mz = m * z := ⟨_, rfl⟩
      have hm1 : (m + 1) * z = mz + z := by rw [Nat.add_mul, hmz]; omega
      have q1 : (m : Int) * (z : Int) = (mz : Int) := by rw [hmz]; exact (Int.natCast_mul m z).symm
      have q2 : ((m : Int) + 1) * (z : Int) = (mz : Int) + (z : Int) := by rw [Int.add_mul, q1]; omega
      have hle : mz + z ≤ kz := by rw [hm1, ← HKZ.out] at hmz1; exact hmz1
      have hex : (str (padded s k)).extract mz (mz + z) = str (splitP s k m) := by
        rw [extract_str, splitP, ← HZ.out, hmz, Nat.add_sub_cancel_left]
      have HMZ := Lib.hid hmz
      clear hmz hm1 hmz1
      go_wp2_with (at_builtin; refine wpList_append1 rfl _ _ _ rfl w.heap.size 9 _ _ Tryd.underlying35 infoStr rfl _ m _ rfl (hown.alloc _) wr.heap.size (.string (str (splitP s k m))) rfl ?c1 rfl ?c2 ?c3 ?c4 ?_)
      case c1 => simp
      case c2 => omega
      case c3 => omega
      case c4 => have := hb.size; simp; omega
      intro v' w' hown' hg' _
      have hb' : Below w.heap.size w w' := below_append (hb.alloc hb.size _) (hown.alloc _) hg' (Nat.le_refl _) (by have := hb.size; simp; omega)
      have hown2 : w'.ownsRow w.heap.size 9 1 v' (m + 1) (strs ((List.range (m + 1)).map (splitP s k))) := by
        rw [splitL_succ, strs_append]; exact hown'
      clear hown' hg'
      go_wp2_with fail
      go_roundw
      case rel => exact ⟨m + 1, by omega, by go_num, hown2, hb'⟩
      case measure => simp [intOf]; omega
    · obtain rfl : m = k := by omega
      have hki : ¬ (m : Int) < (m : Int) := by omega
      go_wp2_with fail
      go_ret
      exact ⟨_, rfl, OwnStrs.of_made (by simpa [splitL] using hown), TurnIn.of_below hb⟩

set_option maxRecDepth 100000 in
set_option maxHeartbeats 2000000 in
theorem sSplitText_own (s : List UInt8) (k : Int) (w : World) (hn : s.length ≤ 1048576) : Calls Tryd.prog 13 #[.string (str s), .int .i64 k] w (RetStrsOk 9 w (splitR s k) (splitOk s k)) := by
  have hsz := str_size s
  by_cases h : dataOk k = true
  · have HI : Hid (inB k 1 8 = true) := h
    have hb : 1 ≤ k ∧ k ≤ 8 := by simpa [dataOk] using h
    obtain ⟨m, rfl⟩ := Int.eq_ofNat_of_zero_le (show 0 ≤ k by omega)
    by_cases h2 : s.length ≤ m * 40
    · have HO : Hid (splitOk s m = true) := by show splitOk s m = true; simp only [splitOk, h, Bool.true_and, decide_eq_true_eq]; omega
      have HR : Hid (splitR s m = splitL s m) := by show splitR s m = _; unfold splitR; rw [if_pos HO.out]; simp
      have hno : ¬ (m : Int) * 40 < (s.length : Int) := by omega
      have hdc : decide ((m : Int) * 40 < (s.length : Int)) = false := by simpa using hno
      have H2 := Lib.hid h2
      clear h h2
      go_enter Tryd.func13, Tryd.ntmps13
      go_wp2_with fail
      refine (l1In_any _ _ _ _).mono ?_
      rintro e w' ⟨rfl, rfl⟩
      rw [HI.out]
      go_wp2_with fail
      refine (l3Split_own s m _ (by omega) (by omega) H2.out).mono ?_
      rintro e w' ⟨v', rfl, ho, ht⟩
      go_wp2_with fail
      go_ret2
      exact ⟨v', by rw [HO.out]; rfl, by rw [HR.out]; exact ho, ht⟩
    · have HO : Hid (splitOk s m = false) := by show splitOk s m = false; simp only [splitOk, h, Bool.true_and, decide_eq_false_iff_not]; omega
      have HR : Hid (splitR s m = []) := by show splitR s m = _; unfold splitR; rw [if_neg (by rw [HO.out]; simp)]
      have hno : (m : Int) * 40 < (s.length : Int) := by omega
      have hdc : decide ((m : Int) * 40 < (s.length : Int)) = true := by simpa using hno
      clear h h2
      go_enter Tryd.func13, Tryd.ntmps13
      go_wp2_with fail
      refine (l1In_any _ _ _ _).mono ?_
      rintro e w' ⟨rfl, rfl⟩
      rw [HI.out]
      go_wp2_with fail
      go_ret2
      exact ⟨.slice none 0 0, by rw [HO.out]; rfl, by rw [HR.out]; exact OwnStrs.nil _ _ _, TurnIn.refl _⟩
  · have HI : Hid (inB k 1 8 = false) := by show inB k 1 8 = false; simpa [dataOk, inB] using h
    have HO : Hid (splitOk s k = false) := by show splitOk s k = false; simp [splitOk, h]
    have HR : Hid (splitR s k = []) := by show splitR s k = _; unfold splitR; rw [if_neg (by rw [HO.out]; simp)]
    clear h
    go_enter Tryd.func13, Tryd.ntmps13
    go_wp2_with fail
    refine (l1In_any _ _ _ _).mono ?_
    rintro e w' ⟨rfl, rfl⟩
    rw [HI.out]
    go_wp2_with fail
    go_ret2
    exact ⟨.slice none 0 0, by rw [HO.out]; rfl, by rw [HR.out]; exact OwnStrs.nil _ _ _, TurnIn.refl _⟩

end Go.Proofs.YtbfchebnooanjaaDoor
