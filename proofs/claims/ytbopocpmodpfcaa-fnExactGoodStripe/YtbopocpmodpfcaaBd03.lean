/- Joined texts: OpenLoc, BytesWalks, MarkText, StrWalks, RowMath, NewGrid, Conv. -/
import Derived.Test.YtbopocpmodpfcaaProg
import Derived.Test.YtbopocpmodpfcaaBd00
import Derived.Test.YtbopocpmodpfcaaBd02
import Derived.Lib.SmallJoins
import Derived.Deep.QuietTactic
import Derived.BigQuiet
import Derived.Laws.Concat
import Derived.Test.YtbopocpmodpfcaaBd01
import Derived.Deep.RegionHeld3
import Derived.Shelf.Abstract
set_option linter.unusedSimpArgs false
set_option linter.unusedVariables false
/- From the readings of a law's arguments to what its walk asks: a struct of three ints. -/
namespace G294
open Go Go.ChangeShapes Go.WideShapes Go.ChangeAt Go.RowKit Go.Deep Go.Joins
section
variable {H : Type} {enc : TypeId × Value → H} {P : Program} {W : World} {base : Nat} {t : TypeId} {v : Value} {d : DataW H} {p : List MemPlace} {f0 f1 f2 : Field}
theorem open_three (hs : P.underlying t = some (.struct #[f0, f1, f2])) (hone : oneCellFields P #[f0, f1, f2] = true) (hC : P.cellsOf t = 3) (u0 : P.underlying f0.type = some (.int .i64)) (u1 : P.underlying f1.type = some (.int .i64)) (u2 : P.underlying f2.type = some (.int .i64))
    (hv : Value.okWide P W .any base t v) (h : DataW.Trod enc P W 0 (fun _ => true) true t v d p) : ∃ g e q : Int, v = .agg #[.int .i64 g, .int .i64 e, .int .i64 q] := by
  obtain ⟨v0, v1, v2, y0, y1, y2, n, rfl, _, _, h0, h1, h2⟩ := open_agg3 hs hone hC hv h
  obtain ⟨g, hg, _⟩ := DataW.trod_int u0 h0
  obtain ⟨e, he, _⟩ := DataW.trod_int u1 h1
  obtain ⟨q, hq, _⟩ := DataW.trod_int u2 h2
  simp only [List.cons.injEq, and_true] at hg he hq
  exact ⟨g, e, q, by rw [hg, he, hq]⟩
end
theorem alloc_tri0 (w : World) (x y z : Value) (T : TypeId) : (w.alloc (.cells #[x, y, z] T)).cell? ⟨w.heap.size, 0, none⟩ = some x := by simp
theorem alloc_tri1 (w : World) (x y z : Value) (T : TypeId) : (w.alloc (.cells #[x, y, z] T)).cell? ⟨w.heap.size, 1, none⟩ = some y := by simp
theorem alloc_tri2 (w : World) (x y z : Value) (T : TypeId) : (w.alloc (.cells #[x, y, z] T)).cell? ⟨w.heap.size, 2, none⟩ = some z := by simp
theorem alloc_ltT (w : World) (o : Obj) : w.heap.size < (w.alloc o).heap.size := by simp
theorem cell_keepT {w w' : World} {B o a b : Nat} {x : Value} (h : w.cell? ⟨B, o, none⟩ = some x) (hl : B < w.heap.size) (t : TurnIn a b w w') (d : B < a ∨ b ≤ B) : w'.cell? ⟨B, o, none⟩ = some x :=
  (World.cell?_of_block (t.block B hl (by omega))).trans h
end G294

/- Contracts of the laws' helpers on []byte: a copy, equality, marks, marks held. -/
namespace Go.Proofs.Ytbopocpmodpfcaa
open Go.RowKit G294

/-- a new row of the call's own is returned; old memory is as it was -/
def Made (w : World) (E : TypeId) (xs : List Value) (e : Ending) (w' : World) : Prop := ∃ v, e = .returned v ∧ w'.ownsRow w.heap.size E 1 v xs.length xs ∧ Below w.heap.size w w'

/-- a new row of the call's own and a bool are returned; old memory is as it was -/
def MadeOk (w : World) (E : TypeId) (xs : List Value) (ok : Bool) (e : Ending) (w' : World) : Prop := ∃ v, e = .returned (.tuple #[v, .bool ok]) ∧ w'.ownsRow w.heap.size E 1 v xs.length xs ∧ Below w.heap.size w w'

theorem infoByte : (Try.prog.info? 5).map (fun i => (i.zero, i.size, i.bytes)) = some (some (.int .u8 0), 1, 1) := by kernel_rfl

theorem bne_byte {x y : UInt8} (b : Bool) (h : (x != y) = b) : ((x.toNat : Int) != (y.toNat : Int)) = b := by
  subst h
  by_cases e : x = y
  · subst e; simp
  · have : x.toNat ≠ y.toNat := fun h => e (UInt8.toNat_inj.1 h)
    rw [(bne_iff_ne (a := x) (b := y)).2 e, bne_iff_ne]; omega

/-- a bool is returned; old memory is as it was -/
def Tells (w : World) (b : Bool) (e : Ending) (w' : World) : Prop := e = .returned (.bool b) ∧ Below w.heap.size w w'

theorem eq_at {l m : List UInt8} {k : Nat} (hl : k < l.length) (hm : k < m.length) (h : l[k] ≠ m[k]) : (l == m) = false := by
  rw [beq_eq_false_iff_ne]
  intro e; subst e; exact h rfl
theorem eq_all {l m : List UInt8} (hl : l.length = m.length) (h : ∀ i (h1 : i < l.length) (h2 : i < m.length), l[i] = m[i]) : (l == m) = true := by
  rw [beq_iff_eq]; exact List.ext_getElem hl h

/-- a number is returned, the row that was handed in holds the cells xs, nothing else that was there has turned -/
def Marked (w : World) (E : TypeId) (base : Nat) (v : Value) (xs : List Value) (m : Int) (e : Ending) (w' : World) : Prop :=
  e = .returned (.int .i64 m) ∧ w'.ownsRow base E 1 v xs.length xs ∧ w.grownBy w' v.ownBlock

/-- a number is returned; old memory is as it was -/
def TellsInt (w : World) (m : Int) (e : Ending) (w' : World) : Prop := e = .returned (.int .i64 m) ∧ Below w.heap.size w w'
end Go.Proofs.Ytbopocpmodpfcaa

/- markText. -/
namespace Go.Proofs.Ytbopocpmodpfcaa
open Go.RowKit G294

end Go.Proofs.Ytbopocpmodpfcaa

/- Contracts of the laws' helpers on []string: a copy, equality, marks, marks held, sizes. -/
namespace Go.Proofs.Ytbopocpmodpfcaa
open Go.RowKit G294

theorem infoStr : (Try.prog.info? 9).map (fun i => (i.zero, i.size, i.bytes)) = some (some (.string ⟨#[]⟩), 1, 16) := by kernel_rfl

set_option maxRecDepth 100000 in
set_option maxHeartbeats 1000000 in
theorem toStringS_own (v : Value) (l : List (List UInt8)) (w : World) (hv : Seen w v (strs l)) (hn : l.length ≤ 1048576) :
    Calls Try.prog 12 #[v] w (RetStrs 9 w l) := by
  obtain ⟨i0, hi0, hz0, hz1, hz2⟩ := info_parts infoStr
  obtain ⟨A, c, rfl, hlc, hcm, hx⟩ := hv
  rw [strs_length] at hlc hx
  simp only [strs_length]
  unfold maxLen at hcm
  generalize hnn : l.length = n at *
  have HN := Lib.hid hnn
  clear hnn
  go_enter Try.func12, Try.ntmps12
  go_wp2_with (at_make; refine wpList_make_full _ rfl _ _ _ rfl w.heap.size _ i0 _ 1 Try.underlying22 hi0 hz0 hz1 _ _ _ _ n rfl rfl rfl rfl ?b2 ?b3 ?b4 ?_)
  case b2 => rw [hz2]; omega
  case b3 => unfold maxLen; omega
  case b4 => exact Nat.le_refl _
  intro w1 hown1 hg1
  have hb1 : Below w.heap.size w w1 := below_of_grown hg1 (Nat.le_refl _) (by simp)
  rw [toList_madeCells_one] at hown1
  clear hg1
  go_wp2_with fail
  go_loopw [4] (fun i wr => ∃ k : Nat, k ≤ n ∧ i = .int .i64 k ∧ wr.ownsRow w.heap.size 9 1 (.slice (some ⟨w.heap.size, 0, none⟩) n n) n ((strs l).take k ++ List.replicate (n - k) (.string ⟨#[]⟩)) ∧ Below w.heap.size w wr)
    (fun i _ => n - (intOf i).toNat)
  case atStart => exact ⟨0, Nat.zero_le _, rfl, by simpa using hown1, hb1⟩
  case round =>
    obtain ⟨k, hk, rfl, hown, hb⟩ := hrel
    clear hown1 hb1
    by_cases hlt : k < n
    · obtain ⟨b, off, rfl, hbl, hcell⟩ := hx (by omega)
      have hkl : k < l.length := by rw [HN.out]; exact hlt
      have hcx : wr.cell? ⟨b, off + k, none⟩ = some (.string (str l[k])) := (hb.cell (p := ⟨b, off + k, none⟩) hbl).trans (hcell k _ (strs_get l k hkl))
      have hco : wr.cell? ⟨w.heap.size, k, none⟩ = some (.string ⟨#[]⟩) := by
        have ht : ((strs l).take k).length = k := by simp; omega
        rw [hown.cellAt k (by omega), List.getElem?_append_right (by omega), ht, Nat.sub_self, List.getElem?_replicate, if_pos (by omega)]
      have hfr := hown.frozenAt k
      have hst := hown.stored k (.string (str l[k]))
      rw [take_set_next (strs l) _ k _ (strs_get l k hkl) (by simp [HN.out]; omega)] at hst
      clear hcell hx
      go_wp2_with fail
      go_roundw
      case rel => exact ⟨k + 1, by omega, by go_num, by simpa [Nat.sub_sub] using hst.1, hb.setCell (Nat.le_refl _) _⟩
      case measure => simp [intOf]; omega
    · obtain rfl : k = n := by omega
      go_wp2_with fail
      go_ret
      refine ⟨_, rfl, OwnStrs.of_made ?_, TurnIn.of_below hb⟩
      rw [List.take_of_length_le (by simp [HN.out]), Nat.sub_self] at hown
      simpa [HN.out] using hown

set_option maxRecDepth 100000 in
set_option maxHeartbeats 1000000 in
theorem eqStringS_same (v u : Value) (l : List (List UInt8)) (w : World) (hv : Seen w v (strs l)) (hu : Seen w u (strs l)) :
    Calls Try.prog 17 #[v, u] w (RetBool w true) := by
  obtain ⟨A, c, rfl, hlc, hcm, hx⟩ := hv
  obtain ⟨A', c', rfl, hlc', hcm', hx'⟩ := hu
  rw [strs_length] at hlc hx hlc' hx'
  simp only [strs_length]
  unfold maxLen at hcm hcm'
  generalize hnn : l.length = n at *
  have HN := Lib.hid hnn
  clear hnn
  have hbn : ((n : Int) != (n : Int)) = false := by simp
  go_enter Try.func17, Try.ntmps17
  go_wp2_with fail
  go_loopw [5] (fun i wr => ∃ k : Nat, k ≤ n ∧ i = .int .i64 k ∧ Below w.heap.size w wr)
    (fun i _ => n - (intOf i).toNat)
  case atStart => exact ⟨0, Nat.zero_le _, rfl, Below.refl _ _⟩
  case round =>
    obtain ⟨k, hk, rfl, hb⟩ := hrel
    by_cases hlt : k < n
    · obtain ⟨b, off, rfl, hbl, hcell⟩ := hx (by omega)
      obtain ⟨b', off', rfl, hbl', hcell'⟩ := hx' (by omega)
      have hkl : k < l.length := by rw [HN.out]; exact hlt
      have hcx : wr.cell? ⟨b, off + k, none⟩ = some (.string (str l[k])) := (hb.cell (p := ⟨b, off + k, none⟩) hbl).trans (hcell k _ (strs_get l k hkl))
      have hcy : wr.cell? ⟨b', off' + k, none⟩ = some (.string (str l[k])) := (hb.cell (p := ⟨b', off' + k, none⟩) hbl').trans (hcell' k _ (strs_get l k hkl))
      clear hcell hcell' hx hx'
      have hki : (k : Int) < (n : Int) := by omega
      have hbb := str_same l[k]
      go_wp2_with fail
      go_quiet (fail)
      go_wp2_with fail
      go_roundw
      case rel => exact ⟨k + 1, by omega, by go_num, below_drewN hb _⟩
      case measure => simp [intOf]; omega
    · obtain rfl : k = n := by omega
      go_wp2_with fail
      go_ret
      exact ⟨rfl, TurnIn.of_below hb⟩

set_option maxRecDepth 100000 in
set_option maxHeartbeats 2000000 in
theorem szStringS_any (v : Value) (L : List (List UInt8)) (left : Nat) (w : World) (hv : Seen w v (strs L)) (hmx : ∀ s ∈ L, s.length ≤ maxLen) (hl : left ≤ 1048576) :
    Calls Try.prog 9 #[v, .int .i64 left] w fun e w' => e = .returned (.int .i64 (szV left (L.length + sizM L))) ∧ w = w' := by
  obtain ⟨A, c, rfl, hlc, hcm, hx⟩ := hv
  rw [strs_length] at hlc hx
  simp only [strs_length]
  unfold maxLen at hcm
  generalize hnn : L.length = n at *
  have HN := Lib.hid hnn
  clear hnn
  by_cases h0 : n ≤ left
  · go_enter Try.func9, Try.ntmps9
    go_wp2_with fail
    go_loop [1, 5] (fun q i => ∃ k m : Nat, k ≤ n ∧ i = .int .i64 k ∧ q = .int .i64 m ∧ m ≤ left ∧ Hid (m + sizM (L.take k) + n = left)) (fun _ i => n - (intOf i).toNat)
    case atStart => exact ⟨0, left - n, Nat.zero_le _, rfl, by go_num, by omega, by show left - n + sizM (L.take 0) + n = left; simp [sizM]; omega⟩
    case round =>
      obtain ⟨k, m, hk, rfl, rfl, hmd, HM⟩ := hrel
      by_cases hlt : k < n
      · have hki : (k : Int) < (n : Int) := by omega
        have hkl : k < L.length := by rw [HN.out]; exact hlt
        obtain ⟨b, off, rfl, hbl, hcell⟩ := hx (by omega)
        have hcx := hcell k _ (strs_get L k hkl)
        have hsz := str_size L[k]
        have hmk := hmx L[k] (List.getElem_mem hkl)
        unfold maxLen at hmk
        have HT := Lib.hid (sizM_take_succ L k hkl)
        have HTL := Lib.hid (sizM_take_le L (k + 1))
        have HG : Hid (L.getD k [] = L[k]) := by show L.getD k [] = L[k]; simp [List.getD, hkl]
        clear hcell hx
        by_cases hle : L[k].length ≤ m
        · have HM2 : Hid (m - L[k].length + sizM (L.take (k + 1)) + n = left) := by
            show _ = left
            have := HT.out; have := HM.out; rw [HG.out] at *; omega
          generalize hnk : L[k].length = nk at *
          have hneg : ¬ ((m : Int) - (nk : Int)) < 0 := by omega
          go_wp2_with fail
          go_round
          case rel => exact ⟨k + 1, m - nk, by omega, by go_num, by go_num, by omega, HM2⟩
          case measure => simp [intOf]; omega
        · have HF : Hid (szV left (n + sizM L) = -1) := by
            show _ = _
            apply szV_no
            have := HT.out; have := HTL.out; have := HM.out; rw [HG.out] at *; omega
          generalize hnk : L[k].length = nk at *
          have hneg : ((m : Int) - (nk : Int)) < 0 := by omega
          go_wp2_with fail
          go_ret
          exact ⟨by rw [HF.out]; rfl, rfl⟩
      · obtain rfl : k = n := by omega
        have hki : ¬ (k : Int) < (k : Int) := by omega
        have HF : Hid (szV left (k + sizM L) = (m : Int)) := by
          have e := HM.out
          rw [List.take_of_length_le (by rw [HN.out]; exact Nat.le_refl _)] at e
          show _ = _
          rw [szV_yes (by omega)]; omega
        go_wp2_with fail
        go_ret
        exact ⟨by rw [HF.out]; rfl, rfl⟩
  · have HF : Hid (szV left (n + sizM L) = -1) := by show _ = _; exact szV_no (by omega)
    go_enter Try.func9, Try.ntmps9
    go_wp2_with fail
    go_ret
    exact ⟨by rw [HF.out]; rfl, rfl⟩

theorem szStringS_yes (v : Value) (L : List (List UInt8)) (left : Nat) (w : World) (hv : Seen w v (strs L)) (hmx : ∀ s ∈ L, s.length ≤ maxLen) (h : L.length + sizM L ≤ left) (hl : left ≤ 1048576) :
    Calls Try.prog 9 #[v, .int .i64 left] w (RetInt w ((left - (L.length + sizM L) : Nat) : Int)) :=
  (szStringS_any v L left w hv hmx hl).mono fun e w' he => ⟨by rw [he.1, szV_yes h], he.2 ▸ TurnIn.refl w⟩

theorem szStringS_no (v : Value) (L : List (List UInt8)) (left : Nat) (w : World) (hv : Seen w v (strs L)) (hmx : ∀ s ∈ L, s.length ≤ maxLen) (h : left < L.length + sizM L) (hl : left ≤ 1048576) :
    Calls Try.prog 9 #[v, .int .i64 left] w (RetInt w (-1)) :=
  (szStringS_any v L left w hv hmx hl).mono fun e w' he => ⟨by rw [he.1, szV_no h], he.2 ▸ TurnIn.refl w⟩

end Go.Proofs.Ytbopocpmodpfcaa

/- The row of a node of a regenerating code. -/
namespace G294
def powB (x : UInt8) (e : Nat) : UInt8 := UInt8.ofNat (gp x.toNat e)
theorem powB_toNat (x : UInt8) (e : Nat) : (powB x e).toNat = gp x.toNat e := by
  unfold powB; rw [UInt8.toNat_ofNat']; exact Nat.mod_eq_of_lt (gp_lt x.toNat_lt e)
theorem gmul_one_left (x : UInt8) : gmul 1 x = x := by
  apply UInt8.toNat_inj.1
  rw [gmul_toNat]
  exact gm_one_left x.toNat_lt
/-- a factor times the first powers of x -/
def pRow (x : UInt8) (a : Nat) (f : UInt8) : List UInt8 := mkRow a fun e => gmul f (powB x e)
def pRows (x : UInt8) (a : Nat) (fs : List UInt8) : List UInt8 := (fs.map (pRow x a)).flatten
/-- the number of a node and its factor -/
def nodX (i : Nat) : UInt8 := powB 3 (i + 1)
def nodF (i a : Nat) : UInt8 := powB (nodX i) a
def shortL (a i : Nat) : List UInt8 := mkRow a (powB (nodX i))
def rowL (a i : Nat) : List UInt8 := shortL a i ++ scaleL (nodF i a) (shortL a i)
@[simp] theorem shortL_length (a i : Nat) : (shortL a i).length = a := by simp [shortL]
@[simp] theorem rowL_length (a i : Nat) : (rowL a i).length = a + a := by simp [rowL, scaleL]
theorem pRow_one (x : UInt8) (a : Nat) : pRow x a 1 = mkRow a (powB x) := mkRow_congr fun j _ => gmul_one_left _
theorem pRow_scale (x : UInt8) (a : Nat) (f : UInt8) : pRow x a f = scaleL f (mkRow a (powB x)) := by simp [pRow, scaleL, mkRow]
theorem pRows_one (a i : Nat) : pRows (nodX i) a [1] = shortL a i := by simp [pRows, pRow_one, shortL]
theorem pRows_two (a i : Nat) : pRows (nodX i) a [1, nodF i a] = rowL a i := by
  have e : pRows (nodX i) a [1, nodF i a] = pRow (nodX i) a 1 ++ pRow (nodX i) a (nodF i a) := by simp [pRows]
  rw [e, pRow_one, pRow_scale]; rfl
theorem pRows_take (x : UInt8) (a : Nat) (fs : List UInt8) (k : Nat) (hk : k < fs.length) : pRows x a (fs.take (k + 1)) = pRows x a (fs.take k) ++ pRow x a fs[k] := by
  rw [List.take_succ_eq_append_getElem hk]; simp only [pRows, List.map_append, List.flatten_append]; simp
theorem pRows_length (x : UInt8) (a : Nat) (fs : List UInt8) : (pRows x a fs).length = fs.length * a := by
  induction fs with
  | nil => simp [pRows]
  | cons f fs ih =>
    have e : pRows x a (f :: fs) = pRow x a f ++ pRows x a fs := by simp [pRows]
    rw [e, List.length_append, ih, List.length_cons, Nat.succ_mul]
    simp [pRow]; omega
theorem mkRow_succ (n : Nat) (f : Nat → UInt8) : mkRow (n + 1) f = mkRow n f ++ [f n] := by simp [mkRow, List.range_succ]
end G294

/- newGrid: rows of a new grid, entry by entry, by whatever function value. -/
namespace G294
open Go Go.RowKit
/-- the function value g with what it captured hands back F i j at i, j; it may draw; it turns and lays nothing -/
def GivesAt (P : Program) (g : Nat) (lb : Array Value) (r c : Nat) (F : Ents) (w : World) : Prop :=
  ∀ (W : World) (i j : Nat), Below w.heap.size w W → i < r → j < c → Calls P g (#[.int .i64 i, .int .i64 j] ++ lb) W fun e w' => e = .returned (.int .u8 ((F i j).toNat : Int)) ∧ ∃ q, w' = W.drewN q
theorem GivesAt.later {P : Program} {g : Nat} {lb : Array Value} {r c : Nat} {F : Ents} {w W : World} (h : GivesAt P g lb r c F w) (hb : Below w.heap.size w W) : GivesAt P g lb r c F W :=
  fun W' i j hb' hi hj => h W' i j (hb.trans (hb'.mono hb.size)) hi hj
theorem getD_rep (n i : Nat) : (List.replicate n ([] : List UInt8)).getD i [] = [] := by
  simp only [List.getD, List.getElem?_replicate]; split <;> rfl
theorem own_blank {E EE : TypeId} {w w1 : World} {r c : Nat} {F : Ents} {v : Value} (h : w1.ownsRow w.heap.size EE 1 v r (List.replicate r (.slice none 0 0))) :
    OwnM E EE w1 w.heap.size w1.heap.size v (mkM 0 c F ++ List.replicate (r - 0) []) (List.replicate r (.slice none 0 0)) := by
  refine ⟨by simpa using h, Nat.le_refl _, fun g e => (h.lt g e).2, ?_, ?_⟩
  · intro i u hu
    have : u = .slice none 0 0 := by
      rw [List.getElem?_replicate] at hu; split at hu <;> simp_all
    subst this
    have e : (mkM 0 c F ++ List.replicate (r - 0) []).getD i [] = [] := by
      have e0 : mkM 0 c F = [] := rfl
      rw [e0, List.nil_append]; exact getD_rep _ _
    rw [e]
    exact OwnBytes.nil _ _ _
  · intro i u g hu hg
    have : u = .slice none 0 0 := by
      rw [List.getElem?_replicate] at hu; split at hu <;> simp_all
    subst this
    simp [Value.ownBlock] at hg
theorem mkM_succ (k c : Nat) (F : Ents) : mkM (k + 1) c F = mkM k c F ++ [mkRow c (F k)] := by simp [mkM, List.range_succ]
theorem set_mid {α : Type} (l m : List α) (x y : α) (k : Nat) (hk : l.length = k) : (l ++ x :: m).set k y = l ++ y :: m := by
  subst hk; simp
theorem getD_mid {α : Type} (l m : List α) (x d : α) (k : Nat) (hk : l.length = k) : (l ++ x :: m).getD k d = x := by
  subst hk; simp [List.getD]
end G294
namespace Go.Proofs.Ytbopocpmodpfcaa
open Go.RowKit G294

theorem infoElemB : (Try.prog.info? 5).map (fun i => (i.zero, i.size, i.bytes)) = some (some (.int .u8 0), 1, 1) := by kernel_rfl

end Go.Proofs.Ytbopocpmodpfcaa

/- identityGrid and converted, on bytes and on field bytes. -/
namespace Go.Proofs.Ytbopocpmodpfcaa
open Go.RowKit G294

end Go.Proofs.Ytbopocpmodpfcaa
