/- Joined texts: Arr3, ConcR, Cur9, CurA, CurU, MatLaws, SameMat. -/
import Derived.Test.YtjgmegfbfjmnfaaDoorBd20
import Derived.Deep.RegionHeld3
import Derived.Lib.AppendZeros
import Derived.BigQuiet
import Derived.Test.YtjgmegfbfjmnfaaDoorBd03
import Derived.Test.YtjgmegfbfjmnfaaDoorBd01
import Derived.Test.YtjgmegfbfjmnfaaDoorBd00
import Derived.Test.YtjgmegfbfjmnfaaDoorBd04
import Derived.Test.YtjgmegfbfjmnfaaDoorBd12
set_option linter.unusedSimpArgs false
set_option linter.unusedVariables false
/- Arrays of 20 bytes: the program's through (Newton). -/
namespace G294
theorem nwK_succ (l : List Sr) (k : Nat) : nwK l (k + 1) = (addC (gmul (yF l k ^^^ hor (xF l k) (nwK l k).1) (ginv (hor (xF l k) (nwK l k).2))) (nwK l k).1 (nwK l k).2, wrC (xF l k) (nwK l k).2) := rfl
end G294
namespace Go.Proofs.YtjgmegfbfjmnfaaDoor
open Go.RowKit G294

theorem inverse_u8 (a : UInt8) (w : World) (ht : Tab w) :
    Calls Tryd.prog 153 #[.int .u8 (a.toNat : Int)] w fun e w' => e = .returned (.int .u8 ((ginv a).toNat : Int)) ∧ w = w' := by
  rw [ginv_toNat]; exact inverse_any _ a.toNat_lt w ht

end Go.Proofs.YtjgmegfbfjmnfaaDoor

/- slices.Concat of two lists of shares, and the program's RandomFor. -/
namespace G294
open Go Go.RowKit
theorem OwnSr.nilOk {w : World} {F : TypeId} {lo hi : Nat} {v : Value} {l : List Sr} (h : OwnSr F w lo hi v l) : NilOk v := fun c e => by
  rcases h.1.2 with ⟨rfl, _⟩ | ⟨g, cap, cur, rfl, _⟩
  · simp only [Value.slice.injEq] at e; omega
  · simp at e
theorem SeenR.flat {w : World} {A : Option Addr} {n c : Nat} {l : List Sr} (h : SeenR w (.slice A n c) l) (hp : 0 < l.length) : ∃ b off, A = some ⟨b, off, none⟩ ∧ b < w.heap.size ∧ ∀ j u, (srs l)[j]? = some u → w.cell? ((⟨b, off, none⟩ : Addr).add j) = some u := by
  obtain ⟨A', c', e, _, _, h3⟩ := h
  simp only [Value.slice.injEq] at e
  obtain ⟨rfl, _, _⟩ := e
  obtain ⟨b, off, rfl, hb, hc⟩ := h3 hp
  refine ⟨b, off, rfl, hb, fun j u hu => ?_⟩
  have hj : j < l.length * 2 := by have := (List.getElem?_eq_some_iff.1 hu).1; simpa using this
  rw [Addr.add_lit]
  obtain ⟨i, rfl | rfl⟩ : ∃ i, j = i * 2 ∨ j = i * 2 + 1 := ⟨j / 2, by omega⟩
  · have hi : i < l.length := by omega
    rw [srs_no l i hi] at hu
    rw [← hu]
    exact (hc i _ (List.getElem?_eq_getElem hi)).1
  · have hi : i < l.length := by omega
    rw [srs_data l i hi] at hu
    rw [← hu, ← Nat.add_assoc]
    exact (hc i _ (List.getElem?_eq_getElem hi)).2
theorem srs_oneR (l : List Sr) : ∀ u ∈ srs l, u.oneCell' = true := srs_oneC l
section
variable {P : Program} {w : World} {ops : Array Oper} {rest : List Oper} {o : Oper} {a : Act} {K : Act → World → Prop} {Q : Exit → Act → World → Prop} {E : Prop}
/-- append(s, shares...) -/
theorem wpList_appendRs (hgd : o.guard = none) (s x : Operand) (t : TypeId) (ho : o.op = .call { callee := .builtin .append, args := #[s, x], argTypes := #[t, t] })
    (base : Nat) (e : TypeId) (z : Value) (bytes : Nat) (ht : P.underlying t = some (.slice e)) (hinfo : (P.info? e).map (fun i => (i.zero, i.size, i.bytes)) = some (some z, 2, bytes)) (hzs : z.cells.size = 2) (hby : bytes ≤ 1000)
    (v : Value) (n : Nat) (l m : List Sr) (hs : a.eval s = v) (hown : w.ownsRow base e 2 v n (srs l)) (u : Value) (hx : a.eval x = u) (hu : SeenR w u m) (hN : NilOk u)
    (hn : n + m.length ≤ 1000000000) (hbase : base ≤ w.heap.size)
    (h : ∀ v' w', w'.ownsRow base e 2 v' (n + m.length) (srs (l ++ m)) → w.grownBy w' v.ownBlock → wpList P ops Q rest (a.put o.dst v') w') :
    wpList P ops Q (o :: rest) a w := by
  obtain ⟨i, hi, hz, hsz, hbs⟩ := info_parts hinfo
  have hu0 := hu
  obtain ⟨A, c, rfl, hlc, hcm, hc⟩ := hu
  cases A with
  | none =>
    have hm0 : m.length = 0 := by
      rcases Nat.eq_zero_or_pos m.length with h' | h'
      · exact h'
      · obtain ⟨b, off, e', _⟩ := hc h'; simp at e'
    have hc0 := hN c (by rw [hm0])
    have hm : m = [] := List.eq_nil_of_length_eq_zero hm0
    subst hm hc0
    refine wpList_append_own_none hgd s x t ho base e i 2 ht hi v n (srs l) hs hown hx (h v w (by simpa using hown) (World.grownBy.refl _ _))
  | some ad =>
    refine wpList_append_own_at w hgd s x t ho base e i _ 2 bytes ht hi hz hsz hbs hzs (by omega) v n (srs l) hs hown ad m.length c (srs m) hx (by simp) (fun j y hj => ?_) (srs_oneR m) (by unfold maxLen; omega) (by
      have : (n + m.length) * bytes ≤ 1000000000 * 1000 := Nat.mul_le_mul hn hby
      omega) hbase (fun v' w' h2 h3 _ h5 => h v' w' (by rw [srs_append]; exact h2) h3)
    have hj' : 0 < m.length := by have := (List.getElem?_eq_some_iff.1 hj).1; simp at this; omega
    obtain ⟨b, off, e', _, hcc⟩ := hu0.flat hj'
    simp only [Option.some.injEq] at e'
    subst e'
    exact hcc j y hj
end
end G294
namespace Go.Proofs.YtjgmegfbfjmnfaaDoor
open Go.RowKit G294

end Go.Proofs.YtjgmegfbfjmnfaaDoor

/- Draws of shares, and the laws' sameShares. -/
namespace G294
open Go Go.RowKit
theorem OwnSr.wid {w : World} {E : TypeId} {lo lo' hi : Nat} {v : Value} {l : List Sr} (h : OwnSr E w lo hi v l) (h1 : lo' ≤ lo) : OwnSr E w lo' w.heap.size v l := ⟨own_base h.1 h1, Nat.le_refl _, fun g e => (h.1.lt g e).2⟩
theorem OwnBytes.wid {w : World} {E : TypeId} {lo lo' hi : Nat} {v : Value} {l : List UInt8} (h : OwnBytes E w lo hi v l) (h1 : lo' ≤ lo) : OwnBytes E w lo' w.heap.size v l := ⟨own_base h.1 h1, Nat.le_refl _, fun g e => (h.1.lt g e).2⟩
end G294
namespace Go.Proofs.YtjgmegfbfjmnfaaDoor
open Go.RowKit G294

end Go.Proofs.YtjgmegfbfjmnfaaDoor

/- Draws of secrets and of polynomials. -/
namespace G294
open Go Go.RowKit
theorem ints_new {w : World} {T : TypeId} {l : List Int} (hl : (ints l).length ≤ 1000) : ∀ i u, (ints l)[i]? = some u → (w.alloc (.cells (ints l).toArray T)).cell? ⟨w.heap.size, i, none⟩ = some u := fun i u hu => by
  rw [cell_of_row _ w.heap.size i _ T _ (heap_alloc_new w _), List.getElem?_toArray]; exact hu
end G294
namespace Go.Proofs.YtjgmegfbfjmnfaaDoor
open Go.RowKit G294

def RetSec (w : World) (e : Ending) (w' : World) : Prop := ∃ (s : UInt8) (v : Value) (l : List UInt8) (n : Int), e = .returned (.tuple #[.int .u8 (s.toNat : Int), v, .int .i64 n]) ∧ l.length ≤ 20 ∧ OwnBytes 5 w' w.heap.size w'.heap.size v l ∧ TurnIn 0 0 w w'
def RetVB (w : World) (e : Ending) (w' : World) : Prop := ∃ (v : Value) (l : List UInt8) (x : UInt8), e = .returned (.tuple #[v, .int .u8 (x.toNat : Int)]) ∧ OwnBytes 5 w' w.heap.size w'.heap.size v l ∧ TurnIn 0 0 w w'

end Go.Proofs.YtjgmegfbfjmnfaaDoor

/- The cursor draws a matrix's side; the draw of a parity matrix. -/
namespace Go.Proofs.YtjgmegfbfjmnfaaDoor
open Go.RowKit G294

set_option maxRecDepth 100000 in
set_option maxHeartbeats 1000000 in
theorem side_any (g : Nat) (cv : Value) (m : Nat) (w : World) (hc : CurAt w g cv m) (hm : m ≤ 1000000) :
    Calls Tryd.prog 53 #[.pointer (some ⟨g, 0, none⟩)] w (Draws w g cv (m + 4) 0 17) := by
  have hgw := hc.lt
  go_enter Tryd.func53, Tryd.ntmps53
  go_wp2_with fail
  refine (one_any g cv m 30 _ hc (by omega)).mono ?_
  rintro e w1 ⟨b, rfl, hc1, k1⟩
  have s1 := k1.size
  cases b
  · go_wp2_with fail
    refine (pick_any g cv _ 4 _ hc1 (by omega)).mono ?_
    rintro e w2 ⟨r, rfl, r0, r1, hc2, k2⟩
    have hr : r ≤ 3 := by have : pickHi 4 = 3 := rfl; omega
    have HK := Lib.hid (turn_trans k1 k2 (by omega))
    have HC := Lib.hid (hc2.more (m := m + 4) (by omega))
    clear r1 hc hc1 hc2 k1 k2
    go_wp2_with fail
    go_ret
    exact ⟨_, rfl, by omega, by omega, HC.out, HK.out⟩
  · have ta := turn_alloc w1 (.cells (ints [0, 16, 17]).toArray 3)
    have HIN := Lib.hid (ints_new (w := w1) (T := 3) (l := [0, 16, 17]) (by simp))
    have za := World.size_alloc w1 (.cells (ints [0, 16, 17]).toArray 3)
    have hc2 := hc1.keep ta (by omega)
    go_wp2_with fail
    refine (among_any g _ _ w1.heap.size 3 [0, 16, 17] _ hc2 (by omega) (by simp) (by simp) (by simp) (by omega) (by omega) (by omega) HIN.out).mono ?_
    rintro e w2 ⟨r, rfl, hr, hc3, k2⟩
    have hr0 : 0 ≤ r ∧ r ≤ 17 := by
      simp only [List.mem_cons, List.not_mem_nil, or_false] at hr
      omega
    have HK := Lib.hid (turn_trans (turn_trans k1 ta (by omega)) k2 (by omega))
    have HC := Lib.hid (hc3.more (m := m + 4) (by omega))
    clear hr HIN hc hc1 hc2 hc3 k1 k2 ta za
    go_wp2_with fail
    go_ret
    exact ⟨r, rfl, hr0.1, hr0.2, HC.out, HK.out⟩
def RetII (w : World) (e : Ending) (w' : World) : Prop := ∃ (k p : Int), e = .returned (.tuple #[.int .i64 k, .int .i64 p]) ∧ (0 ≤ k ∧ k ≤ 17) ∧ (0 ≤ p ∧ p ≤ 5) ∧ TurnIn 0 0 w w'

set_option maxRecDepth 100000 in
set_option maxHeartbeats 1000000 in
theorem drawParityMatrix_any (v : Value) (l : List UInt8) (w : World) (hv : Seen w v (bys l)) : Calls Tryd.prog 15 #[v] w (RetII w) := by
  obtain ⟨A, c, hvv⟩ := hv.len
  rw [bys_length] at hvv
  subst hvv
  have hc := cur_new hv
  have k0 := turn_alloc w (.cells #[.slice A l.length c, .int .i64 0, .int .u64 0] 72)
  have s0 := World.size_alloc w (.cells #[.slice A l.length c, .int .i64 0, .int .u64 0] 72)
  go_enter Tryd.func15, Tryd.ntmps15
  go_wp2_with fail
  refine (side_any _ _ 0 _ hc (by omega)).mono ?_
  rintro e w1 ⟨r, rfl, r0, r1, hc1, k1⟩
  have s1 := k1.size
  have kk := turn_trans k0 k1 (by omega)
  clear k0 k1 hc
  go_wp2_with fail
  refine (pick_any _ _ _ 6 _ hc1 (by omega)).mono ?_
  rintro e w2 ⟨q, rfl, q0, q1, hc2, k2⟩
  have hq : q ≤ 5 := by have : pickHi 6 = 5 := rfl; omega
  have HK := Lib.hid (turn_trans kk k2 (by omega))
  clear q1 hc1 hc2 k2 kk
  go_wp2_with fail
  go_ret2
  exact ⟨r, q, rfl, ⟨r0, r1⟩, ⟨q0, hq⟩, HK.out⟩

end Go.Proofs.YtjgmegfbfjmnfaaDoor

/- The laws' helpers on matrices: a copy, equality, marks, marks held, sizes. -/
namespace G294
open Go Go.RowKit
/-- a mark of rows -/
def RetMarkM (E EE : TypeId) (w : World) (lo hi : Nat) (v : Value) (vs : List Value) (k : Nat) (L : Mat) (e : Ending) (w' : World) : Prop :=
  e = .returned (.int .i64 ((k + sizM L : Nat) : Int)) ∧ OwnM E EE w' lo hi v (marksM k L) vs ∧ TurnIn lo hi w w'
def szR (left : Nat) (n : Nat) : Int := if n ≤ left then (left : Int) - n else -1
theorem getD_mark (L : Mat) (k i : Nat) (hi : i < L.length) : ((marksM k L).take i ++ L.drop i).getD i [] = L.getD i [] := by
  have ht : ((marksM k L).take i).length = i := by rw [List.length_take, marksM_length]; omega
  simp only [List.getD]
  rw [List.getElem?_append_right (by omega), ht, Nat.sub_self, List.getElem?_drop, Nat.add_zero]
theorem set_mark (L : Mat) (k i : Nat) (hi : i < L.length) : ((marksM k L).take i ++ L.drop i).set i (marks (k + sizM (L.take i)) (L.getD i []).length) = (marksM k L).take (i + 1) ++ L.drop (i + 1) := by
  refine take_set_over _ _ i _ ?_ (marksM_length L k)
  have := marksM_getD L k i hi
  rw [← this]
  have hl : i < (marksM k L).length := by rw [marksM_length]; exact hi
  simp [List.getD, hl]
theorem set_copy (L : Mat) (i n : Nat) (hi : i < L.length) (hn : n = L.length) : (L.take i ++ List.replicate (n - i) []).set i (L.getD i []) = L.take (i + 1) ++ List.replicate (n - (i + 1)) [] := by
  have e : List.replicate (n - i) ([] : List UInt8) = [] :: List.replicate (n - (i + 1)) [] := by
    rw [← List.replicate_succ]; congr 1; omega
  have ht : (L.take i).length = i := by rw [List.length_take]; omega
  have e3 : L.getD i [] = L[i] := by simp [List.getD, hi]
  rw [e, set_mid _ _ _ _ _ ht, e3, List.take_succ_eq_append_getElem hi, List.append_assoc]
  rfl
end G294
namespace Go.Proofs.YtjgmegfbfjmnfaaDoor
open Go.RowKit G294

end Go.Proofs.YtjgmegfbfjmnfaaDoor

/- The laws' sameMatrices of two equal matrices (also inside LawAnyFew, under another name). -/
namespace Go.Proofs.YtjgmegfbfjmnfaaDoor
open Go.ChangeShapes Go.WideShapes Go.ChangeAt Go.RowKit G294

set_option maxRecDepth 100000 in
set_option maxHeartbeats 1000000 in
theorem sameMatrices_eq (v u : Value) (L : Mat) (w : World) (hv : SeenM w v L) (hu : SeenM w u L) : Calls Tryd.prog 18 #[.agg #[v], .agg #[u]] w (RetBool w true) := by
  obtain ⟨A, c, rfl, hlc, hcm⟩ := hv.len
  obtain ⟨A', c', rfl, hlc', hcm'⟩ := hu.len
  have hb0 : Below w.heap.size w ((w.alloc (.cells #[.slice A L.length c] 39)).alloc (.cells #[.slice A' L.length c'] 39)) := ((Below.refl _ _).alloc (Nat.le_refl _) _).alloc (by simp) _
  have c0 : ((w.alloc (.cells #[.slice A L.length c] 39)).alloc (.cells #[.slice A' L.length c'] 39)).cell? ⟨w.heap.size, 0, none⟩ = some (.slice A L.length c) := cell_turn (turn_alloc _ _) (alloc_cell _ _ _) (alloc_lt _ _)
  have c1 : ((w.alloc (.cells #[.slice A L.length c] 39)).alloc (.cells #[.slice A' L.length c'] 39)).cell? ⟨w.heap.size + 1, 0, none⟩ = some (.slice A' L.length c') := by have := alloc_cell (w.alloc (.cells #[.slice A L.length c] 39)) (.slice A' L.length c') 39; rwa [World.size_alloc] at this
  have z0 : ((w.alloc (.cells #[.slice A L.length c] 39)).alloc (.cells #[.slice A' L.length c'] 39)).heap.size = w.heap.size + 2 := by simp
  have HV := Lib.hid (hv.below hb0)
  have HU := Lib.hid (hu.below hb0)
  unfold maxLen at hcm hcm'
  clear hv hu
  generalize hnn : L.length = n at *
  have HN := Lib.hid hnn
  clear hnn
  have hbn : ((n : Int) != (n : Int)) = false := by simp
  go_enter Tryd.func18, Tryd.ntmps18
  go_wp2_with fail
  generalize ((w.alloc (.cells #[.slice A n c] 39)).alloc (.cells #[.slice A' n c'] 39)) = w0 at *
  have hz0 : w.heap.size + 2 ≤ w0.heap.size := by omega
  clear z0
  go_loopw [16] (fun i wr => ∃ k : Nat, k ≤ n ∧ i = .int .i64 k ∧ Below w0.heap.size w0 wr) (fun i _ => n - (intOf i).toNat)
  case atStart => exact ⟨0, Nat.zero_le _, rfl, Below.refl _ _⟩
  case round =>
    obtain ⟨k, hk, rfl, hb⟩ := hrel
    by_cases hlt : k < n
    · obtain ⟨bb, off, c2, r1, hvv, _, _, hbl, hc1, hs1⟩ := (HV.out.below hb).row k (by rw [HN.out]; exact hlt)
      obtain ⟨bb', off', c2', r2, huu, _, _, hbl', hc1', hs1'⟩ := (HU.out.below hb).row k (by rw [HN.out]; exact hlt)
      simp only [Value.slice.injEq] at hvv huu
      obtain ⟨rfl, z1, rfl⟩ := hvv
      obtain ⟨rfl, z2, rfl⟩ := huu
      clear z1 z2
      have d0 := (hb.cell (p := ⟨w.heap.size, 0, none⟩) (show w.heap.size < w0.heap.size by omega)).trans c0
      have d1 := (hb.cell (p := ⟨w.heap.size + 1, 0, none⟩) (show w.heap.size + 1 < w0.heap.size by omega)).trans c1
      have hki : (k : Int) < (n : Int) := by omega
      have hk0 : (0 : Int) ≤ (k : Int) := Int.natCast_nonneg _
      have HS1 := Lib.hid hs1
      have HS2 := Lib.hid hs1'
      have hll : (L.getD k [] == L.getD k []) = true := by simp
      have HQ : Hid (∀ q : Nat, Calls Tryd.prog 58 #[r1, r2] (wr.drewN q) fun e w' => e = .returned (.bool true) ∧ wr.drewN q = w') := fun q => by
        have := sameBytes_any r1 r2 (L.getD k []) (L.getD k []) (wr.drewN q) HS1.out HS2.out
        rwa [hll] at this
      clear hs1 hs1' hll
      go_wp2_with fail
      go_quiet ((go_at_call 58; exact quietly (HQ.out _)))
      go_wp2_with fail
      go_roundw
      case rel => exact ⟨k + 1, by omega, by go_num, below_drewN hb _⟩
      case measure => simp [intOf]; omega
    · obtain rfl : k = n := by omega
      have hki : ¬ (k : Int) < (k : Int) := by omega
      go_wp2_with fail
      go_ret
      exact ⟨rfl, TurnIn.of_below (hb0.trans (hb.mono (by omega)))⟩

end Go.Proofs.YtjgmegfbfjmnfaaDoor
