/- Joined texts: SpecFill, Allocs, SpecOwn, Shape, CodeM, PartMath, AnyMath. -/
import Derived.Test.YtlkoafnlklhaeabDoorBd04
import Derived.Test.YtlkoafnlklhaeabDoorBd03
import Derived.Test.YtlkoafnlklhaeabDoorBd00
import Derived.Deep.DeepMust
import Derived.Deep.RegionHeldLaw
import Derived.Test.YtlkoafnlklhaeabDoorBd02
set_option linter.unusedSimpArgs false
set_option linter.unusedVariables false
/- The model's identity, Vandermonde and Cauchy matrices. -/
namespace G294
open Go Go.RowKit
/-- what a function that fills a matrix keeps: its rows, the variable that holds them, the variable of its result, and old memory -/
structure Fill (E EE : TypeId) (w wr : World) (B : Nat) (v : Value) (L : Mat) (vs : List Value) : Prop where
  own : OwnM E EE wr (w.heap.size + 1) B v L vs
  var : wr.cell? ⟨B, 0, none⟩ = some v
  res : wr.cell? ⟨w.heap.size, 0, none⟩ = some (.slice none 0 0)
  resf : wr.frozen? ⟨w.heap.size, 0, none⟩ = false
  old : Below w.heap.size w wr
  size : B < wr.heap.size
  lo : w.heap.size < B
theorem Fill.drewN {E EE : TypeId} {w wr : World} {B : Nat} {v : Value} {L : Mat} {vs : List Value} (h : Fill E EE w wr B v L vs) (q : Nat) : Fill E EE w (wr.drewN q) B v L vs :=
  ⟨h.own.drewN q, h.var, h.res, h.resf, below_drewN h.old q, h.size, h.lo⟩
theorem Fill.congr {E EE : TypeId} {w wr : World} {B : Nat} {v : Value} {L L' : Mat} {vs : List Value} (h : Fill E EE w wr B v L vs) (e : L = L') : Fill E EE w wr B v L' vs := e ▸ h
theorem Fill.storeF {E EE : TypeId} {w wr : World} {B r c k j bb m cap' : Nat} {F : Ents} {x : UInt8} {v : Value} {vs : List Value} (h : Fill E EE w wr B v (mkM r c F) vs) (hk : k < r) (hu : vs[k]? = some (.slice (some ⟨bb, 0, none⟩) m cap')) :
    Fill E EE w (wr.setCell ⟨bb, j, none⟩ (.int .u8 (x.toNat : Int))) B v (mkM r c fun i jj => if i = k ∧ jj = j then x else F i jj) vs := by
  have ho := h.own.rows k _ hu
  have h1 := (ho.1.lt bb rfl).1
  have h2 := ho.2.2 bb rfl
  have hlo := h.lo
  exact ⟨h.own.storeF hk hu, (cell_set_other wr _ _ _ (by omega)).trans h.var, (cell_set_other wr _ _ _ (by omega)).trans h.res, (frozen_set_other wr _ _ _ (by omega)).trans h.resf, h.old.setCell (show w.heap.size ≤ bb by omega) _, by simpa using h.size, hlo⟩
theorem Fill.start {E EE : TypeId} {w w1 w2 : World} {v : Value} {L : Mat} {vs : List Value} {t : TypeId} (hw2 : w2 = w1.alloc (.cells #[v] t)) (hM : OwnM E EE w1 (w.heap.size + 1) w1.heap.size v L vs) (hc : w1.cell? ⟨w.heap.size, 0, none⟩ = some (.slice none 0 0)) (hf : w1.frozen? ⟨w.heap.size, 0, none⟩ = false)
    (hb : Below w.heap.size w w1) (hs : w.heap.size + 1 ≤ w1.heap.size) : Fill E EE w w2 w1.heap.size v L vs := by
  subst hw2
  have kA : TurnIn 0 0 w1 (w1.alloc (.cells #[v] t)) := TurnIn.of_below ((Below.refl _ _).alloc (Nat.le_refl _) _)
  exact ⟨hM.keep kA (by omega), by simp, cell_turn kA hc (by omega), frozen_turn kA hf (by omega), hb.alloc (by omega) _, by simp, by omega⟩
/-- the rows are stored into the result -/
theorem Fill.finish {E EE : TypeId} {w wr : World} {B : Nat} {v : Value} {L : Mat} {vs : List Value} (h : Fill E EE w wr B v L vs) :
    RetMat E EE w L (.returned (.agg #[v])) (wr.setCell ⟨w.heap.size, 0, none⟩ v) := by
  have kk := turn_setCell wr w.heap.size 0 v
  have hs := h.size
  exact ⟨v, vs, rfl, (h.own.keep kk (by omega)).wider (by omega) (by simp; omega) (by simp), TurnIn.of_below (h.old.setCell (Nat.le_refl _) _)⟩
end G294
namespace Go.Proofs.YtlkoafnlklhaeabDoor
open Go.RowKit G294

set_option maxRecDepth 100000 in
set_option maxHeartbeats 2000000 in
theorem l2Identity_own (n : Nat) (w : World) (h1 : 1 ≤ n) (hn : n ≤ 1000) : Calls Tryd.prog 55 #[.int .i64 n] w (RetMat 5 22 w (mkM n n idF)) := by
  have hb0 : Below w.heap.size w (w.alloc (.cells #[.slice none 0 0] 52)) := (Below.refl _ _).alloc (Nat.le_refl _) _
  go_enter Tryd.func55, Tryd.ntmps55
  go_wp2_with fail
  refine (l2Blank_own n n _ hn hn).mono ?_
  rintro e w1 ⟨v, vs, rfl, hM, ht⟩
  obtain ⟨g, cp, rfl, hg1, hg2, hg3, hg4⟩ := hM.sliceF h1
  have hc0 := cell_turn ht (B := w.heap.size) (o := 0) (x := .slice none 0 0) (by simp) (by simp)
  have hf0 := frozen_turn ht (B := w.heap.size) (o := 0) (x := false) (by simp) (by simp)
  have hb1 := ht.base hb0 (by simp) (by omega)
  have hs1 := ht.size
  rw [World.size_alloc] at hs1 hM hg1
  have hF := Fill.start (t := 52) rfl (hM.congr (L' := mkM n n fun i j => if i = j ∧ i < 0 then 1 else 0) (mkM_congr fun i j _ _ => by simp)) hc0 hf0 hb1 hs1
  have HF0 := Lib.hid hF
  clear hM ht hb0 hb1 hc0 hf0 hF
  unfold maxLen at hg4
  have hcB : (w1.alloc (.cells #[.slice (some ⟨g, 0, none⟩) n cp] 52)).cell? ⟨w1.heap.size, 0, none⟩ = some (.slice (some ⟨g, 0, none⟩) n cp) := by simp
  go_wp2_with fail
  generalize w1.alloc (.cells #[.slice (some ⟨g, 0, none⟩) n cp] 52) = w2 at *
  generalize w1.heap.size = B at *
  go_loopw [11] (fun i wr => ∃ k : Nat, k ≤ n ∧ i = .int .i64 k ∧ Hid (Fill 5 22 w wr B (.slice (some ⟨g, 0, none⟩) n cp) (mkM n n fun i j => if i = j ∧ i < k then 1 else 0) vs))
    (fun i _ => n - (intOf i).toNat)
  case atStart => exact ⟨0, Nat.zero_le _, rfl, HF0.out⟩
  case round =>
    obtain ⟨k, hk, rfl, HF⟩ := hrel
    have hvar := HF.out.var
    clear hcB
    by_cases hlt : k < n
    · have hki : (k : Int) < (n : Int) := by omega
      obtain ⟨bb, cp2, hu, e1, e2, e3, e4, e5, hfz, hcell⟩ := HF.out.own.rowF k hlt (by omega)
      have hco := HF.out.own.cellAt hu
      have hcx := hcell k hlt
      have hfr := hfz k
      unfold maxLen at e5
      have HF2 := Lib.hid ((HF.out.storeF (j := k) (x := 1) hlt hu).congr (L' := mkM n n fun i j => if i = j ∧ i < k + 1 then 1 else 0) (mkM_congr fun i j _ _ => by
        by_cases a1 : i = k
        · subst a1
          by_cases a2 : j = i
          · subst a2; simp
          · have a3 : ¬ i = j := fun e => a2 e.symm
            simp [a2, a3]
        · by_cases a2 : i = j
          · subst a2
            by_cases a3 : i < k
            · simp [a1, a3]; omega
            · simp [a1, a3]; omega
          · simp [a1, a2]))
      clear hcell hfz hu e3
      go_wp2_with fail
      go_roundw
      case rel => exact ⟨k + 1, by omega, by go_num, HF2.out⟩
      case measure => simp [intOf]; omega
    · obtain rfl : k = n := by omega
      have hki : ¬ (k : Int) < (k : Int) := by omega
      have hc0 := HF.out.res
      have hf0 := HF.out.resf
      go_wp2_with fail
      refine bodyPost_ret (v := .agg #[.slice (some ⟨g, 0, none⟩) k cp]) (by simp [results, Tryd.results55, go_sem, hc0]) rfl ?_
      exact (HF.out.congr (L' := mkM k k idF) (mkM_congr fun i j hi _ => by simp [idF, hi])).finish

set_option maxRecDepth 100000 in
set_option maxHeartbeats 2000000 in
theorem l2Cauchy_own (r c : Nat) (w : World) (h1 : 1 ≤ r) (h2 : 1 ≤ c) (hr : r ≤ 16) (hc : c ≤ 16) : Calls Tryd.prog 56 #[.int .i64 r, .int .i64 c] w (RetMat 5 22 w (mkM r c (cauF c))) := by
  have hb0 : Below w.heap.size w (w.alloc (.cells #[.slice none 0 0] 52)) := (Below.refl _ _).alloc (Nat.le_refl _) _
  go_enter Tryd.func56, Tryd.ntmps56
  go_wp2_with fail
  refine (l2Blank_own r c _ (by omega) (by omega)).mono ?_
  rintro e w1 ⟨v, vs, rfl, hM, ht⟩
  obtain ⟨g, cp, rfl, hg1, hg2, hg3, hg4⟩ := hM.sliceF h1
  have hc0 := cell_turn ht (B := w.heap.size) (o := 0) (x := .slice none 0 0) (by simp) (by simp)
  have hf0 := frozen_turn ht (B := w.heap.size) (o := 0) (x := false) (by simp) (by simp)
  have hb1 := ht.base hb0 (by simp) (by omega)
  have hs1 := ht.size
  rw [World.size_alloc] at hs1 hM hg1
  have hF := Fill.start (t := 52) rfl (hM.congr (L' := mkM r c fun i j => if i < 0 then (cauF c) i j else 0) (mkM_congr fun i j _ _ => by simp)) hc0 hf0 hb1 hs1
  have HF0 := Lib.hid hF
  clear hM ht hb0 hb1 hc0 hf0 hF
  unfold maxLen at hg4
  have hcB : (w1.alloc (.cells #[.slice (some ⟨g, 0, none⟩) r cp] 52)).cell? ⟨w1.heap.size, 0, none⟩ = some (.slice (some ⟨g, 0, none⟩) r cp) := by simp
  go_wp2_with fail
  generalize w1.alloc (.cells #[.slice (some ⟨g, 0, none⟩) r cp] 52) = w2 at *
  generalize w1.heap.size = B at *
  go_loopw [14] (fun i wr => ∃ k : Nat, k ≤ r ∧ i = .int .i64 k ∧ Hid (Fill 5 22 w wr B (.slice (some ⟨g, 0, none⟩) r cp) (mkM r c fun i j => if i < k then (cauF c) i j else 0) vs))
    (fun i _ => r - (intOf i).toNat)
  case atStart => exact ⟨0, Nat.zero_le _, rfl, HF0.out⟩
  case round =>
    obtain ⟨k, hk, rfl, HF⟩ := hrel
    have hvar := HF.out.var
    clear hcB
    by_cases hlt : k < r
    · have hki : (k : Int) < (r : Int) := by omega
      obtain ⟨bb, cp2, hu, e1, e2, e3, e4, e5, hfz, hcell⟩ := HF.out.own.rowF k hlt (by omega)
      have hco := HF.out.own.cellAt hu
      have HU := Lib.hid hu
      have HF1 := Lib.hid (HF.out.congr (L' := mkM r c fun i j => if i < k ∨ (i = k ∧ j < 0) then (cauF c) i j else 0) (mkM_congr fun i j _ _ => by simp))
      unfold maxLen at e5
      clear hcell hfz hu e3
      go_wp2_with fail
      go_loopw [23] (fun i wq => ∃ m : Nat, m ≤ c ∧ i = .int .i64 m ∧ Hid (Fill 5 22 w wq B (.slice (some ⟨g, 0, none⟩) r cp) (mkM r c fun i j => if i < k ∨ (i = k ∧ j < m) then (cauF c) i j else 0) vs))
        (fun i _ => c - (intOf i).toNat)
      case atStart => exact ⟨0, Nat.zero_le _, rfl, HF1.out⟩
      case round =>
        obtain ⟨m, hm, rfl, HF⟩ := hrel
        have hvar := HF.out.var
        clear hco hvar
        by_cases hlm : m < c
        · have hmi : (m : Int) < (c : Int) := by omega
          have hk0 : (0 : Int) ≤ (k : Int) := Int.natCast_nonneg _
          have hm0 : (0 : Int) ≤ (m : Int) := Int.natCast_nonneg _
          have hvar := HF.out.var
          have hco := HF.out.own.cellAt HU.out
          obtain ⟨bb', cp2', hu', e1', e2', e3', e4', e5', hfz, hcell⟩ := HF.out.own.rowF k hlt (by omega)
          obtain ⟨rfl, rfl⟩ : bb = bb' ∧ cp2 = cp2' := by simpa using HU.out.symm.trans hu'
          have hcx := hcell m hlm
          have hfr := hfz m
          have hlo := HF.out.lo
          have n1 : B ≠ bb := by omega
          have n1' : bb ≠ B := by omega
          have n2 : g ≠ bb := fun e => e3' (by rw [e]; rfl)
          have n2' : bb ≠ g := fun e => n2 e.symm
          have HF2 := Lib.hid (fun q => ((HF.out.drewN q).storeF (j := m) (x := (cauF c) k m) hlt HU.out).congr (L' := mkM r c fun i j => if i < k ∨ (i = k ∧ j < m + 1) then (cauF c) i j else 0) (mkM_congr fun i j _ _ => by
            by_cases a1 : i = k
            · subst a1
              by_cases a2 : j = m
              · subst a2; simp
              · by_cases a3 : j < m
                · simp [a2, a3]; omega
                · simp [a2, a3]; omega
            · simp [a1]))
          have HV := Lib.hid (cau_u8 c k m (by omega) (by omega))
          have hxx := xor_lt (a := c + k) (b := m) (by omega) (by omega)
          have hsum : IntKind.i64.wrap ((c : Int) + (k : Int)) = (c : Int) + (k : Int) := IntWalk.i64_in _ (by omega)
          have hxor : bits BinOp.xor IntKind.i64 ((c : Int) + (k : Int)) (m : Int) = (((c + k) ^^^ m : Nat) : Int) := by rw [← Int.natCast_add]; exact xor_i64 (by omega) (by omega)
          have hwx : IntKind.u8.wrap (((c + k) ^^^ m : Nat) : Int) = (((c + k) ^^^ m : Nat) : Int) := IntWalk.u8_in _ (by omega)
          clear hcell hfz hu' e3' e5'
          go_wp2_with fail
          go_region_held3 (fun w' => w'.cell? ⟨B, 0, none⟩ = some (.slice (some ⟨g, 0, none⟩) r cp) ∧ w'.cell? ⟨g, k, none⟩ = some (.slice (some ⟨bb, 0, none⟩) c cp2))
            (first | go_keep)
            ((go_at_call 73; refine (l1Inverse_any ((c + k) ^^^ m) (by omega) _).mono ?_; rintro e w' ⟨rfl, rfl⟩))
          go_wp2_with fail
          go_roundw
          case rel => exact ⟨m + 1, by omega, by go_num, by rw [← HV.out]; exact HF2.out 1⟩
          case measure => simp [intOf]; omega
        · obtain rfl : m = c := by omega
          have hmi : ¬ (m : Int) < (m : Int) := by omega
          go_wp2_with fail
          go_roundw
          case rel => exact ⟨k + 1, by omega, by go_num, HF.out.congr (mkM_congr fun i j _ hj => by
            by_cases a1 : i < k
            · simp [a1]; omega
            · by_cases a2 : i = k
              · subst a2; simp [hj]
              · simp [a1, a2]; omega)⟩
          case measure => simp [intOf]; omega
    · obtain rfl : k = r := by omega
      have hki : ¬ (k : Int) < (k : Int) := by omega
      have hc0 := HF.out.res
      have hf0 := HF.out.resf
      go_wp2_with fail
      refine bodyPost_ret (v := .agg #[.slice (some ⟨g, 0, none⟩) k cp]) (by simp [results, Tryd.results56, go_sem, hc0]) rfl ?_
      exact (HF.out.congr (L' := mkM k c (cauF c)) (mkM_congr fun i j hi _ => by simp [hi])).finish

end Go.Proofs.YtlkoafnlklhaeabDoor

/- Blocks made one behind the other. -/
namespace G294
open Go Go.RowKit
theorem alloc_mid_cell (w : World) (o1 o3 : Obj) (v : Value) (T : TypeId) : (((w.alloc o1).alloc (.cells #[v] T)).alloc o3).cell? ⟨w.heap.size + 1, 0, none⟩ = some v := by
  have h : ((w.alloc o1).alloc (.cells #[v] T)).cell? ⟨w.heap.size + 1, 0, none⟩ = some v := by simp
  exact cell_turn (turn_alloc _ o3) h (by rw [World.size_alloc, World.size_alloc]; omega)
theorem alloc_mid_frozen (w : World) (o1 o3 : Obj) (v : Value) (T : TypeId) : (((w.alloc o1).alloc (.cells #[v] T)).alloc o3).frozen? ⟨w.heap.size + 1, 0, none⟩ = false := by
  have h : ((w.alloc o1).alloc (.cells #[v] T)).frozen? ⟨w.heap.size + 1, 0, none⟩ = false := by simp
  exact frozen_turn (turn_alloc _ o3) h (by rw [World.size_alloc, World.size_alloc]; omega)
theorem alloc_last_cell (w : World) (o1 o2 : Obj) (v : Value) (T : TypeId) : (((w.alloc o1).alloc o2).alloc (.cells #[v] T)).cell? ⟨w.heap.size + 2, 0, none⟩ = some v := by
  have e : w.heap.size + 2 = ((w.alloc o1).alloc o2).heap.size := by rw [World.size_alloc, World.size_alloc]
  rw [e]; exact (by simp : ∀ w : World, (w.alloc (.cells #[v] T)).cell? ⟨w.heap.size, 0, none⟩ = some v) _
theorem alloc_last_frozen (w : World) (o1 o2 : Obj) (v : Value) (T : TypeId) : (((w.alloc o1).alloc o2).alloc (.cells #[v] T)).frozen? ⟨w.heap.size + 2, 0, none⟩ = false := by
  have e : w.heap.size + 2 = ((w.alloc o1).alloc o2).heap.size := by rw [World.size_alloc, World.size_alloc]
  rw [e]; exact (by simp : ∀ w : World, (w.alloc (.cells #[v] T)).frozen? ⟨w.heap.size, 0, none⟩ = false) _
end G294

/- The model's l2Own. -/
namespace G294
open Go Go.RowKit
/-- append(s, x...) of a row of one-cell elements, onto a row of the call's own, as one step of a region that draws its order -/
theorem step_appendN {P : Program} {w : World} {ops : Array Oper} {o : Oper} {a : Act} {K : Act → World → Prop} {Q : Exit → Act → World → Prop} {E : Prop} (hgd : o.guard = none) (s x : Operand) (t : TypeId)
    (ho : o.op = .call { callee := .builtin .append, args := #[s, x], argTypes := #[t, t] })
    (base : Nat) (e : TypeId) (z : Value) (bytes : Nat) (ht : P.underlying t = some (.slice e)) (hinfo : (P.info? e).map (fun i => (i.zero, i.size, i.bytes)) = some (some z, 1, bytes)) (hzs : z.cells.size = 1)
    (v : Value) (n : Nat) (xs : List Value) (hs : a.eval s = v) (hown : w.ownsRow base e 1 v n xs)
    (A : Addr) (m c : Nat) (ys : List Value) (hx : a.eval x = .slice (some A) m c) (hl : ys.length = m) (hc : ∀ j y, ys[j]? = some y → w.cell? (A.add j) = some y) (h1 : ∀ y, y ∈ ys → y.oneCell' = true)
    (hn : n + m ≤ 1000000000) (hby : bytes ≤ 1000) (hbase : base ≤ w.heap.size)
    (h : ∀ v' w', w'.ownsRow base e 1 v' (n + m) (xs ++ ys) → w.grownBy w' v.ownBlock → (v'.ownBlock = v.ownBlock ∨ v'.ownBlock = some w.heap.size) → K (a.put o.dst v') w') :
    if Region.wanted o (yielded ops a.tmps) = true then Oper.wp P o a w K Q else E := by
  have hw : Region.wanted o (yielded ops a.tmps) = true := by simp [Region.wanted, hgd]
  rw [if_pos hw]
  obtain ⟨i, hi, hz, hsz, hbs⟩ := info_parts hinfo
  obtain ⟨v', w', hrun, r1, r2, _, r4⟩ := run_append_own_at (P := P) w base t o.type e i z 1 bytes ht hi hz hsz hbs hzs (by omega) v n xs hown A m c ys (by omega) hc h1 (by unfold maxLen; omega) (by
    have : (n + m) * bytes ≤ 1000000000 * 1000 := Nat.mul_le_mul (by omega) hby
    omega) hbase
  unfold Oper.wp execOp
  simp only [ho, resolve, invoke, builtin, Sem.run_bind, Sem.run_pure, Result.andThen_ok, List.map_toArray, List.map_cons, List.map_nil, hs, hx, hrun]
  exact h v' w' r1 r2 r4
theorem bys_oneC (l : List UInt8) : ∀ y, y ∈ bys l → y.oneCell' = true := by
  intro y hy
  simp only [bys, List.mem_map] at hy
  obtain ⟨x, _, rfl⟩ := hy
  rfl
theorem turn_trans' {w w1 w2 : World} (k : TurnIn 0 0 w w1) {row : Option Nat} (hg : w1.grownBy w2 row) (hr : ∀ g, row = some g → w.heap.size ≤ g) : TurnIn 0 0 w w2 :=
  TurnIn.of_below (k.to_below.grown hg k.size hr)
end G294
namespace Go.Proofs.YtlkoafnlklhaeabDoor
open Go.RowKit G294

set_option maxRecDepth 100000 in
set_option maxHeartbeats 2000000 in
theorem l2Own_own (r c : Nat) (F : Ents) (v : Value) (w : World) (hs : SeenM w v (mkM r c F)) (hr : r ≤ 1000) (hc : c ≤ 1000) (hc1 : 1 ≤ c) : Calls Tryd.prog 97 #[.agg #[v]] w (RetMat 5 22 w (mkM r c F)) := by
  obtain ⟨A, cp, rfl, hlc, hcm⟩ := hs.len
  rw [mkM_length] at hlc hs ⊢
  unfold maxLen at hcm
  have hb0 : Below w.heap.size w (w.alloc (.cells #[.slice A r cp] 52)) := (Below.refl _ _).alloc (Nat.le_refl _) _
  have hb1 : Below w.heap.size w ((w.alloc (.cells #[.slice A r cp] 52)).alloc (.cells #[.slice none 0 0] 52)) := hb0.alloc (by simp) _
  have hb2 : Below w.heap.size w (((w.alloc (.cells #[.slice A r cp] 52)).alloc (.cells #[.slice none 0 0] 52)).alloc (.cells #[.slice none 0 0] 52)) := hb1.alloc (by simp; omega) _
  have hsz : (((w.alloc (.cells #[.slice A r cp] 52)).alloc (.cells #[.slice none 0 0] 52)).alloc (.cells #[.slice none 0 0] 52)).heap.size = w.heap.size + 3 := by simp
  have hM0 : OwnM 5 22 (((w.alloc (.cells #[.slice A r cp] 52)).alloc (.cells #[.slice none 0 0] 52)).alloc (.cells #[.slice none 0 0] 52)) (w.heap.size + 3) (w.heap.size + 3) (.slice none 0 0) (mkM 0 c F) [] := hsz ▸ OwnM.nil _ _ _ _
  have q2 : (((w.alloc (.cells #[.slice A r cp] 52)).alloc (.cells #[.slice none 0 0] 52)).alloc (.cells #[.slice none 0 0] 52)).cell? ⟨w.heap.size + 2, 0, none⟩ = some (.slice none 0 0) := alloc_last_cell _ _ _ _ _
  have q2f : (((w.alloc (.cells #[.slice A r cp] 52)).alloc (.cells #[.slice none 0 0] 52)).alloc (.cells #[.slice none 0 0] 52)).frozen? ⟨w.heap.size + 2, 0, none⟩ = false := alloc_last_frozen _ _ _ _ _
  have q1 : (((w.alloc (.cells #[.slice A r cp] 52)).alloc (.cells #[.slice none 0 0] 52)).alloc (.cells #[.slice none 0 0] 52)).cell? ⟨w.heap.size + 1, 0, none⟩ = some (.slice none 0 0) := alloc_mid_cell _ _ _ _ _
  have q1f : (((w.alloc (.cells #[.slice A r cp] 52)).alloc (.cells #[.slice none 0 0] 52)).alloc (.cells #[.slice none 0 0] 52)).frozen? ⟨w.heap.size + 1, 0, none⟩ = false := alloc_mid_frozen _ _ _ _ _
  have HSZ := Lib.hid hsz
  have HS := Lib.hid hs
  clear hsz hs
  go_enter Tryd.func97, Tryd.ntmps97
  go_wp2_with fail
  go_loopw [10] (fun i wr => ∃ (k : Nat) (o : Value) (vs : List Value), k ≤ r ∧ i = .int .i64 k ∧ OwnM 5 22 wr (w.heap.size + 3) wr.heap.size o (mkM k c F) vs ∧
      wr.cell? ⟨w.heap.size + 2, 0, none⟩ = some o ∧ wr.frozen? ⟨w.heap.size + 2, 0, none⟩ = false ∧ wr.cell? ⟨w.heap.size + 1, 0, none⟩ = some (.slice none 0 0) ∧ wr.frozen? ⟨w.heap.size + 1, 0, none⟩ = false ∧ Below w.heap.size w wr ∧ w.heap.size + 3 ≤ wr.heap.size)
    (fun i _ => r - (intOf i).toNat)
  case atStart => exact ⟨0, .slice none 0 0, [], Nat.zero_le _, rfl, hM0.wider (Nat.le_refl _) (by rw [HSZ.out]; exact Nat.le_refl _) (Nat.le_refl _), q2, q2f, q1, q1f, hb2, by rw [HSZ.out]; exact Nat.le_refl _⟩
  case round =>
    obtain ⟨k, o, vs, hk, rfl, hM, hc2, hf2, hcr, hfr, hb, hsz⟩ := hrel
    clear hM0 hb2 hb1 hb0 q2 q2f q1 q1f
    by_cases hlt : k < r
    · have hki : (k : Int) < (r : Int) := by omega
      have hrow : wr.ownsRow (w.heap.size + 3) 22 1 o k vs := by simpa using hM.row
      obtain ⟨B, n, co, rfl⟩ := hM.isSlice
      have hsw := HS.out.below hb
      obtain ⟨bb, off, c9, A0, c0, hvv, _, hbb, hcx, hc9, hsr⟩ := hsw.rowF k hlt
      simp only [Value.slice.injEq] at hvv
      obtain ⟨rfl, z9, rfl⟩ := hvv
      obtain ⟨A1, c1, hA1, hcc1, hcc2, hx1⟩ := hsr
      simp only [bys_length, mkRow_length] at hA1 hcc1 hx1
      obtain ⟨b0, off0, hA2, hb0, hx⟩ := hx1 (by omega)
      simp only [Value.slice.injEq] at hA1
      obtain ⟨rfl, _, rfl⟩ := hA1
      subst hA2
      have HX := Lib.hid hx
      clear hx hx1 z9
      have kA : TurnIn 0 0 wr (wr.alloc (.cells #[] 5)).drew := TurnIn.of_below ((Below.refl _ _).alloc (Nat.le_refl _) _).drew
      have hob : ∀ g, (Value.slice B n co).ownBlock = some g → w.heap.size + 3 ≤ g := fun g e => (hrow.lt g e).1
      have hne2 : (Value.slice B n co).ownBlock ≠ some (w.heap.size + 2) := fun e => by have := hob _ e; omega
      have hne1 : (Value.slice B n co).ownBlock ≠ some (w.heap.size + 1) := fun e => by have := hob _ e; omega
      have hown0 : (wr.alloc (.cells #[] 5)).drew.ownsRow wr.heap.size 5 1 (.slice (some ⟨wr.heap.size, 0, none⟩) 0 0) 0 [] := (World.ownsRow_lit wr #[] 0 (Nat.le_refl _) (by unfold maxLen; omega) rfl).drew
      have hcA : (wr.alloc (.cells #[] 5)).cell? ⟨w.heap.size + 2, 0, none⟩ = some (.slice B n co) := cell_turn kA hc2 (by omega)
      have hys : ∀ j y, (bys (mkRow c (F k)))[j]? = some y → (wr.alloc (.cells #[] 5)).drew.cell? ((⟨b0, off0, none⟩ : Addr).add j) = some y := fun j y hj => by rw [Addr.add_lit]; exact cell_turn kA (HX.out j y hj) hb0
      have hyl : (bys (mkRow c (F k))).length = c := by simp
      have HYS := Lib.hid hys
      clear hys
      have HR := Lib.hid hrow
      have HM := Lib.hid hM
      clear hM hrow
      go_wp2_with fail
      go_region_law (first
        | (refine step_appendN (by rfl) _ _ _ (by rfl) wr.heap.size 5 _ _ Tryd.underlying22 infoByte rfl _ 0 [] (by rfl) hown0 ⟨b0, off0, none⟩ c c0 (bys (mkRow c (F k))) (by rfl) hyl HYS.out (bys_oneC _) (by omega) (by omega) (by simp) ?_; intro u1 w1 hown1 hg1 hv1; obtain ⟨C1, m1, d1, rfl⟩ := own_isSlice hown1; have k1 := turn_trans' kA hg1 (fun g e => by simp [Value.ownBlock] at e; omega); have hcB : w1.cell? ⟨w.heap.size + 2, 0, none⟩ = some (.slice B n co) := cell_turn k1 hc2 (by omega); have k2 : TurnIn 0 0 wr (w1.alloc (.cells #[.slice C1 m1 d1] 22)) := turn_trans k1 (turn_alloc _ _) (by omega); have hcC : (w1.alloc (.cells #[.slice C1 m1 d1] 22)).cell? ⟨w.heap.size + 2, 0, none⟩ = some (.slice B n co) := cell_turn k2 hc2 (by omega); have hs1 := k1.size)
        | (refine step_append1 (by rfl) _ _ _ (by rfl) (w.heap.size + 3) 22 _ _ Tryd.underlying50 infoRowB rfl _ k vs (by rfl) (owns_turn HR.out (fun g e => (HR.out.lt g e).2) k2 (by omega)) w1.heap.size (.slice C1 m1 d1) (by rfl) (by simp) (by rfl) (by omega) (by omega) (by simp; omega) ?_; intro v' w2 hown2 hg2 hv2; obtain ⟨A', n', cp', rfl⟩ := own_isSlice hown2; have hc2' := (cell_past k2 hg2 hne2 (by omega) 0).trans hc2; have hf2' := (frozen_past k2 hg2 hne2 (by omega) 0).trans hf2))
      all_goals
        have hR : OwnBytes 5 (w1.alloc (.cells #[.slice C1 m1 d1] 22)) wr.heap.size (w1.heap.size + 1) (.slice C1 m1 d1) (mkRow c (F k)) := by
          refine ⟨?_, by simp, fun g e => by have := (hown1.lt g e).2; omega⟩
          have e : w1.ownsRow wr.heap.size 5 1 (.slice C1 m1 d1) c (bys (mkRow c (F k))) := by simpa using hown1
          rw [mkRow_length]
          exact e.alloc _
        have hM5 := (((HM.out.push k2 hR (Nat.le_refl _) (by omega) (by simpa using hown2) hg2 hv2).keep (turn_setCell w2 (w.heap.size + 2) 0 (.slice A' n' cp')) (by omega)).congr (mkM_succ k c F).symm)
        have hw1 : wr.heap.size ≤ w2.heap.size := by have := hg2.size; have := k2.size; omega
        have hb5 : Below w.heap.size w (w2.setCell ⟨w.heap.size + 2, 0, none⟩ (.slice A' n' cp')) := Below.setCell (TurnIn.base (TurnIn.of_grown (lo := w.heap.size) (hi := w2.heap.size) hg2 (fun g e => ⟨by have := hob g e; omega, by have := (HM.out.out g e); omega⟩)) (k2.base hb (by omega) (by omega)) (by have := k2.size; omega) (by omega)) (Nat.le_add_right _ 2) _
        have hq0 := ((cell_past k2 hg2 hne1 (by omega) 0).trans hcr)
        have hq0f := ((frozen_past k2 hg2 hne1 (by omega) 0).trans hfr)
        clear hR hown1 hown2 hg1 hg2 hv1 hv2 hob hcA hcB hcC hb hcr hfr hcx k1 k2 kA hown0
        go_wp2_with fail
        go_roundw
        case rel => exact ⟨k + 1, .slice A' n' cp', vs ++ [.slice C1 m1 d1], by omega, by go_num, by simpa using hM5, World.cell?_setCell_same _ _ _ hc2', by simp [hf2'], (cell_set_other w2 _ _ _ (by omega)).trans hq0, (frozen_set_other w2 _ _ _ (by omega)).trans hq0f, hb5, by simp; omega⟩
        case measure => simp [intOf]; omega
    · obtain rfl : k = r := by omega
      have hki : ¬ (k : Int) < (k : Int) := by omega
      obtain ⟨B, n, co, rfl⟩ := hM.isSlice
      go_wp2_with fail
      refine bodyPost_ret (v := .agg #[.slice B n co]) (by simp [results, Tryd.results97, go_sem, hcr]) rfl ?_
      have kk := turn_setCell wr (w.heap.size + 1) 0 (.slice B n co)
      have hle : w.heap.size ≤ w.heap.size + 1 := Nat.le_succ _
      refine ⟨_, vs, rfl, (hM.keep kk (by omega)).wider (by omega) (by simp) (by simp), TurnIn.of_below (hb.setCell hle _)⟩
end Go.Proofs.YtlkoafnlklhaeabDoor

/- Shapes of codes: the program's goodDataCount and GoodShape, the model's GoodShape. -/
namespace G294
open Go Go.RowKit
def dataOk (k : Int) : Bool := decide (1 ≤ k ∧ k ≤ 8)
def shapeOk (k m : Int) : Bool := dataOk k && decide (1 ≤ m ∧ m ≤ 6)
theorem shapeOk_b {k m : Int} (h : shapeOk k m = true) : (1 ≤ k ∧ k ≤ 8) ∧ 1 ≤ m ∧ m ≤ 6 := by simpa [shapeOk, dataOk] using h
end G294
namespace Go.Proofs.YtlkoafnlklhaeabDoor
open Go.RowKit G294

set_option maxHeartbeats 400000 in
theorem goodDataCount_any (n : Int) (w : World) : Calls Tryd.prog 37 #[.int .i64 n] w fun e w' => e = .returned (.bool (dataOk n)) ∧ w = w' := by
  by_cases h1 : 1 ≤ n
  · have hd : decide (1 ≤ n) = true := by simpa using h1
    by_cases h2 : n ≤ 8
    · have HV : Hid (dataOk n = true) := by show dataOk n = true; simp [dataOk, h1, h2]
      go_enter Tryd.func37, Tryd.ntmps37
      go_wp2_with fail
      go_ret
      exact ⟨by rw [HV.out]; simp [h2], rfl⟩
    · have HV : Hid (dataOk n = false) := by show dataOk n = false; simp [dataOk, h2]
      go_enter Tryd.func37, Tryd.ntmps37
      go_wp2_with fail
      go_ret
      exact ⟨by rw [HV.out]; simp [h2], rfl⟩
  · have hd : decide (1 ≤ n) = false := by simpa using h1
    have HV : Hid (dataOk n = false) := by show dataOk n = false; simp [dataOk, h1]
    go_enter Tryd.func37, Tryd.ntmps37
    go_wp2_with fail
    go_ret
    exact ⟨by rw [HV.out]; rfl, rfl⟩

set_option maxHeartbeats 1000000 in
theorem goodShape_any (k m : Int) (w : World) : Calls Tryd.prog 25 #[.int .i64 k, .int .i64 m] w fun e w' => e = .returned (.bool (shapeOk k m)) ∧ w = w' := by
  by_cases h : dataOk k = true
  · have HO := Lib.hid h
    clear h
    by_cases h1 : 1 ≤ m
    · have hd : decide (1 ≤ m) = true := by simpa using h1
      by_cases h2 : m ≤ 6
      · have hd2 : decide (m ≤ 6) = true := by simpa using h2
        have HV : Hid (shapeOk k m = true) := by show shapeOk k m = true; simp [shapeOk, HO.out, h1, h2]
        go_enter Tryd.func25, Tryd.ntmps25
        go_wp2_with fail
        refine (goodDataCount_any _ _).mono ?_
        rintro e w' ⟨rfl, rfl⟩
        rw [HO.out]
        go_wp2_with fail
        go_ret
        exact ⟨by rw [HV.out]; simp [h2], rfl⟩
      · have hd2 : decide (m ≤ 6) = false := by simpa using h2
        have HV : Hid (shapeOk k m = false) := by show shapeOk k m = false; simp [shapeOk, h2]
        go_enter Tryd.func25, Tryd.ntmps25
        go_wp2_with fail
        refine (goodDataCount_any _ _).mono ?_
        rintro e w' ⟨rfl, rfl⟩
        rw [HO.out]
        go_wp2_with fail
        go_ret
        exact ⟨by rw [HV.out]; simp [h2], rfl⟩
    · have hd : decide (1 ≤ m) = false := by simpa using h1
      have HV : Hid (shapeOk k m = false) := by show shapeOk k m = false; simp [shapeOk, h1]
      go_enter Tryd.func25, Tryd.ntmps25
      go_wp2_with fail
      refine (goodDataCount_any _ _).mono ?_
      rintro e w' ⟨rfl, rfl⟩
      rw [HO.out]
      go_wp2_with fail
      go_ret
      exact ⟨by rw [HV.out]; simp [h1], rfl⟩
  · have HO : Hid (dataOk k = false) := by show dataOk k = false; simpa using h
    have HV : Hid (shapeOk k m = false) := by show shapeOk k m = false; simp [shapeOk, HO.out]
    clear h
    go_enter Tryd.func25, Tryd.ntmps25
    go_wp2_with fail
    refine (goodDataCount_any _ _).mono ?_
    rintro e w' ⟨rfl, rfl⟩
    rw [HO.out]
    go_wp2_with fail
    go_ret
    exact ⟨by rw [HV.out]; rfl, rfl⟩

set_option maxHeartbeats 1000000 in
theorem sGoodShape_any (k m : Int) (w : World) : Calls Tryd.prog 43 #[.int .i64 k, .int .i64 m] w fun e w' => e = .returned (.bool (shapeOk k m)) ∧ w = w' := by
  by_cases h : dataOk k = true
  · have HO : Hid (inB k 1 8 = true) := h
    have HV : Hid (shapeOk k m = inB m 1 6) := by show shapeOk k m = inB m 1 6; simp [shapeOk, h, inB]
    clear h
    go_enter Tryd.func43, Tryd.ntmps43
    go_wp2_with fail
    refine (l1In_any _ _ _ _).mono ?_
    rintro e w' ⟨rfl, rfl⟩
    rw [HO.out]
    go_wp2_with fail
    refine (l1In_any _ _ _ _).mono ?_
    rintro e w' ⟨rfl, rfl⟩
    go_wp2_with fail
    go_ret
    exact ⟨by rw [HV.out]; rfl, rfl⟩
  · have HO : Hid (inB k 1 8 = false) := by show inB k 1 8 = false; simpa [dataOk, inB] using h
    have HV : Hid (shapeOk k m = false) := by show shapeOk k m = false; simp [shapeOk, h]
    clear h
    go_enter Tryd.func43, Tryd.ntmps43
    go_wp2_with fail
    refine (l1In_any _ _ _ _).mono ?_
    rintro e w' ⟨rfl, rfl⟩
    rw [HO.out]
    go_wp2_with fail
    go_ret
    exact ⟨by rw [HV.out]; rfl, rfl⟩

end Go.Proofs.YtlkoafnlklhaeabDoor

/- CodeMatrix: the program's and the model's. -/
namespace G294
open Go Go.RowKit
/-- append(s, x...) of a row of one-cell elements, onto a row of the call's own -/
theorem wpList_appendN {P : Program} {w : World} {ops : Array Oper} {rest : List Oper} {o : Oper} {a : Act} {Q : Exit → Act → World → Prop} (hgd : o.guard = none) (s x : Operand) (t : TypeId)
    (ho : o.op = .call { callee := .builtin .append, args := #[s, x], argTypes := #[t, t] })
    (base : Nat) (e : TypeId) (z : Value) (bytes : Nat) (ht : P.underlying t = some (.slice e)) (hinfo : (P.info? e).map (fun i => (i.zero, i.size, i.bytes)) = some (some z, 1, bytes)) (hzs : z.cells.size = 1)
    (v : Value) (n : Nat) (xs : List Value) (hs : a.eval s = v) (hown : w.ownsRow base e 1 v n xs)
    (A : Addr) (m c : Nat) (ys : List Value) (hx : a.eval x = .slice (some A) m c) (hl : ys.length = m) (hc : ∀ j y, ys[j]? = some y → w.cell? (A.add j) = some y) (h1 : ∀ y, y ∈ ys → y.oneCell' = true)
    (hn : n + m ≤ 1000000000) (hby : bytes ≤ 1000) (hbase : base ≤ w.heap.size)
    (h : ∀ v' w', w'.ownsRow base e 1 v' (n + m) (xs ++ ys) → w.grownBy w' v.ownBlock → (v'.ownBlock = v.ownBlock ∨ v'.ownBlock = some w.heap.size) → wpList P ops Q rest (a.put o.dst v') w') :
    wpList P ops Q (o :: rest) a w := by
  obtain ⟨i, hi, hz, hsz, hbs⟩ := info_parts hinfo
  refine wpList_append_own_at w hgd s x t ho base e i z 1 bytes ht hi hz hsz hbs hzs (by omega) v n xs hs hown A m c ys hx (by omega) hc h1 (by unfold maxLen; omega) ?_ hbase (fun v' w' h2 h3 _ h5 => h v' w' h2 h3 h5)
  have : (n + m) * bytes ≤ 1000000000 * 1000 := Nat.mul_le_mul (by omega) hby
  omega
/-- the rows of two matrices of the call's own, one behind the other -/
theorem OwnM.join {E EE : TypeId} {w w1 : World} {lo hi a b : Nat} {v v' u : Value} {L M : Mat} {vs us : List Value} (h : OwnM E EE w lo hi v L vs) (hu : OwnM E EE w a b u M us) (h1 : hi ≤ a) (h2 : lo ≤ a)
    (ho : w1.ownsRow lo EE 1 v' (L.length + M.length) (vs ++ us)) (hg : w.grownBy w1 v.ownBlock) (hv : v'.ownBlock = v.ownBlock ∨ v'.ownBlock = some w.heap.size) : OwnM E EE w1 lo w1.heap.size v' (L ++ M) (vs ++ us) := by
  have hvl := h.vlen
  have hul := hu.vlen
  have hs := hg.size
  have hob : ∀ g, v.ownBlock = some g → g < hi := h.out
  have ht := h.top
  have key : ∀ (i : Nat) (x : Value), (vs ++ us)[i]? = some x → (i < L.length ∧ vs[i]? = some x) ∨ (L.length ≤ i ∧ us[i - L.length]? = some x) := by
    intro i x hi'
    rcases Nat.lt_or_ge i vs.length with hlt | hge
    · rw [List.getElem?_append_left hlt] at hi'; exact .inl ⟨by omega, hi'⟩
    · rw [List.getElem?_append_right hge, hvl] at hi'
      exact .inr ⟨by omega, hi'⟩
  have low : ∀ (i : Nat) (x : Value) (g : Nat), vs[i]? = some x → x.ownBlock = some g → g < hi := fun i x g e1 e2 => (h.rows i x e1).2.2 g e2
  have high : ∀ (i : Nat) (x : Value) (g : Nat), us[i]? = some x → x.ownBlock = some g → a ≤ g := fun i x g e1 e2 => ((hu.rows i x e1).1.lt g e2).1
  refine ⟨by simpa using ho, Nat.le_refl _, fun g e => (ho.lt g e).2, ?_, ?_⟩
  · intro i x hi'
    rcases key i x hi' with ⟨h3, h4⟩ | ⟨h3, h4⟩
    · have e : (L ++ M).getD i [] = L.getD i [] := by simp [List.getD, List.getElem?_append_left h3]
      rw [e]
      exact ((h.rows i x h4).other hg (fun g e1 e2 => (h.apart i x g h4 e1).1 e2)).wider (Nat.le_refl _) (by omega) (Nat.le_refl _)
    · have e : (L ++ M).getD i [] = M.getD (i - L.length) [] := by simp [List.getD, List.getElem?_append_right h3]
      rw [e]
      exact ((hu.rows _ x h4).other hg (fun g e1 e2 => by have := high _ x g h4 e1; have := hob g e2; omega)).wider h2 (by have := hu.top; omega) (Nat.le_refl _)
  · intro i x g hi' hgx
    have hlt : g < w.heap.size := by
      rcases key i x hi' with ⟨_, h4⟩ | ⟨_, h4⟩
      · exact ((h.rows i x h4).1.lt g hgx).2
      · exact ((hu.rows _ x h4).1.lt g hgx).2
    refine ⟨fun e => ?_, fun j y hj hgy => ?_⟩
    · rcases hv with e2 | e2
      · rw [e2] at e
        rcases key i x hi' with ⟨_, h4⟩ | ⟨_, h4⟩
        · exact (h.apart i x g h4 hgx).1 e
        · have := high _ x g h4 hgx; have := hob g e; omega
      · rw [e2] at e; simp at e; omega
    · rcases key i x hi' with ⟨h3, h4⟩ | ⟨h3, h4⟩ <;> rcases key j y hj with ⟨h5, h6⟩ | ⟨h5, h6⟩
      · exact (h.apart i x g h4 hgx).2 j y h6 hgy
      · have := low i x g h4 hgx; have := high _ y g h6 hgy; omega
      · have := low j y g h6 hgy; have := high _ x g h4 hgx; omega
      · have := (hu.apart _ x g h4 hgx).2 _ y h6 hgy; omega
/-- a store into a block that is none of its own -/
theorem OwnM.other {E EE : TypeId} {w w' : World} {lo hi B : Nat} {v : Value} {L : Mat} {vs : List Value} (h : OwnM E EE w lo hi v L vs) (hg : w.grownBy w' (some B)) (hv : v.ownBlock ≠ some B) (hr : ∀ u ∈ vs, u.ownBlock ≠ some B) : OwnM E EE w' lo hi v L vs :=
  ⟨own_other h.row hg (fun g e e2 => by cases e2; exact hv e), Nat.le_trans h.top hg.size, h.out, fun i u hu => (h.rows i u hu).other hg (fun g e e2 => by cases e2; exact hr u (List.mem_of_getElem? hu) e), h.apart⟩
theorem OwnM.rowBlock {E EE : TypeId} {w : World} {lo hi : Nat} {v : Value} {L : Mat} {vs : List Value} (h : OwnM E EE w lo hi v L vs) : ∀ u ∈ vs, ∀ g, u.ownBlock = some g → lo ≤ g ∧ g < hi := fun u hu g e => by
  obtain ⟨i, hi, rfl⟩ := List.getElem_of_mem hu
  have := h.rows i _ (List.getElem?_eq_getElem hi)
  exact ⟨(this.1.lt g e).1, this.2.2 g e⟩
theorem grown_set {w : World} (B o : Nat) (x : Value) : w.grownBy (w.setCell ⟨B, o, none⟩ x) (some B) := by
  have t := turn_setCell w B o x
  exact ⟨t.os, t.tape, t.output, t.size, fun k hk hne => t.block k hk (by have : k ≠ B := fun e => hne (by rw [e]); omega)⟩
theorem rows_oneC {E EE : TypeId} {w : World} {lo hi : Nat} {v : Value} {L : Mat} {vs : List Value} (h : OwnM E EE w lo hi v L vs) : ∀ y, y ∈ vs → y.oneCell' = true := fun y hy => by
  obtain ⟨i, hi, rfl⟩ := List.getElem_of_mem hy
  obtain ⟨A, n, c, e⟩ := own_isSlice (h.rows i _ (List.getElem?_eq_getElem hi)).1
  rw [e]; rfl
/-- the matrix of a code -/
def codF (k : Nat) : Ents := fun i j => if i < k then idF i j else cauF k (i - k) j
def codM (k m : Nat) : Mat := mkM (k + m) k (codF k)
theorem codM_eq (k m : Nat) : mkM k k idF ++ mkM m k (cauF k) = codM k m := by
  apply List.ext_getElem
  · simp [codM]
  · intro i h1 h2
    rcases Nat.lt_or_ge i k with h | h
    · rw [List.getElem_append_left (by simpa using h)]
      simp only [codM, mkM, List.getElem_map, List.getElem_range]
      exact mkRow_congr fun j _ => by simp [codF, h]
    · rw [List.getElem_append_right (by simpa using h)]
      simp only [codM, mkM, List.getElem_map, List.getElem_range, List.length_map, List.length_range]
      exact mkRow_congr fun j _ => by simp [codF, Nat.not_lt.2 h]
def codR (k m : Int) : Mat := if shapeOk k m then codM k.toNat m.toNat else []
theorem codR_yes {k m : Nat} (h : shapeOk k m = true) : codR k m = codM k m := by unfold codR; rw [if_pos h]; simp
theorem codR_no {k m : Int} (h : shapeOk k m = false) : codR k m = [] := by unfold codR; rw [if_neg (by rw [h]; simp)]
theorem codR_siz (k m : Int) : sizM (codR k m) ≤ 256 := by
  unfold codR; split
  · rename_i h
    have := shapeOk_b h
    exact sizM_side _ (by omega) (by omega)
  · simp [sizM]
end G294
namespace Go.Proofs.YtlkoafnlklhaeabDoor
open Go.RowKit G294

set_option maxRecDepth 100000 in
set_option maxHeartbeats 2000000 in
theorem codeMatrix_own (k m : Int) (w : World) (ht : Tab w) (h0 : 0 < w.heap.size) :
    Calls Tryd.prog 22 #[.int .i64 k, .int .i64 m] w (RetMatOk 5 22 w (codR k m) (shapeOk k m)) := by
  have hb0 : Below w.heap.size w (w.alloc (.cells #[.slice none 0 0] 52)) := (Below.refl _ _).alloc (Nat.le_refl _) _
  have hz0 := World.size_alloc w (.cells #[.slice none 0 0] 52)
  by_cases h : shapeOk k m = true
  · have HO := Lib.hid h
    have hb := shapeOk_b h
    clear h
    obtain ⟨p, rfl⟩ := Int.eq_ofNat_of_zero_le (show 0 ≤ k by omega)
    obtain ⟨q, rfl⟩ := Int.eq_ofNat_of_zero_le (show 0 ≤ m by omega)
    have HR := Lib.hid (codR_yes HO.out)
    have HG1 : Hid (goodI p = true) := by show goodI p = true; simp [goodI]; omega
    have HS : Hid (sidesOk q p = true) := by show sidesOk q p = true; simp [sidesOk, goodI]; omega
    have HR1 : Hid (idR p = mkM p p idF) := by show idR p = _; unfold idR; rw [if_pos HG1.out]; simp
    have HR2 : Hid (cauR q p = mkM q p (cauF p)) := by show cauR q p = _; unfold cauR; rw [if_pos HS.out]; simp
    have c0 := alloc_cell w (.slice none 0 0) 52
    have l0 := alloc_lt w (.cells #[.slice none 0 0] 52)
    have f0 : (w.alloc (.cells #[.slice none 0 0] 52)).frozen? ⟨w.heap.size, 0, none⟩ = false := by simp
    go_enter Tryd.func22, Tryd.ntmps22
    go_wp2_with fail
    refine (goodShape_any _ _ _).mono ?_
    rintro e w' ⟨rfl, rfl⟩
    rw [HO.out]
    go_wp2_with fail
    refine (identity_own p _).mono ?_
    rintro e w1 ⟨v1, vs1, rfl, hM1, k1⟩
    rw [HR1.out] at hM1
    obtain ⟨g1, cp1, rfl, hg1, hg1', hcp1, hcp1'⟩ := hM1.sliceF (by omega)
    have hs1 := k1.size
    have hb1 := k1.base hb0 (by omega) (by omega)
    have a1 := turn_alloc w1 (.cells #[.slice (some ⟨g1, 0, none⟩) p cp1] 52)
    have z1 := World.size_alloc w1 (.cells #[.slice (some ⟨g1, 0, none⟩) p cp1] 52)
    replace hb1 := a1.base hb1 (by omega) (by omega)
    replace hM1 := hM1.keep a1 (by omega)
    have c1 := alloc_cell w1 (.slice (some ⟨g1, 0, none⟩) p cp1) 52
    have l1 := alloc_lt w1 (.cells #[.slice (some ⟨g1, 0, none⟩) p cp1] 52)
    replace c0 := cell_turn a1 (cell_turn k1 c0 l0) (by omega)
    replace f0 := frozen_turn a1 (frozen_turn k1 f0 l0) (by omega)
    go_wp2_with fail
    refine (cauchy_own q p _ (ht.below hb1 h0) (by omega)).mono ?_
    rintro e w2 ⟨v2, vs2, rfl, hM2, k2⟩
    rw [HR2.out] at hM2
    obtain ⟨g2, cp2, rfl, hg2, hg2', hcp2, hcp2'⟩ := hM2.sliceF (by omega)
    have hs2 := k2.size
    have hb2 := k2.base hb1 (by omega) (by omega)
    have a2 := turn_alloc w2 (.cells #[.slice (some ⟨g2, 0, none⟩) q cp2] 52)
    have z2 := World.size_alloc w2 (.cells #[.slice (some ⟨g2, 0, none⟩) q cp2] 52)
    replace hb2 := a2.base hb2 (by omega) (by omega)
    replace hM1 := (hM1.keep k2 (by omega)).keep a2 (by omega)
    replace hM2 := hM2.keep a2 (by omega)
    have c2 := alloc_cell w2 (.slice (some ⟨g2, 0, none⟩) q cp2) 52
    replace c1 := cell_turn a2 (cell_turn k2 c1 l1) (by omega)
    replace c0 := cell_turn a2 (cell_turn k2 c0 (by omega)) (by omega)
    replace f0 := frozen_turn a2 (frozen_turn k2 f0 (by omega)) (by omega)
    have hys : ∀ j y, vs2[j]? = some y → (w2.alloc (.cells #[.slice (some ⟨g2, 0, none⟩) q cp2] 52)).cell? ((⟨g2, 0, none⟩ : Addr).add j) = some y := fun j y hj => by
      rw [Addr.add_lit, Nat.zero_add]; exact hM2.cellAt hj
    have hyl : vs2.length = q := by have := hM2.vlen; simpa using this
    have hy1 : ∀ y, y ∈ vs2 → y.oneCell' = true := fun y hy => by
      obtain ⟨i, hi, rfl⟩ := List.getElem_of_mem hy
      obtain ⟨A, n, c, e⟩ := own_isSlice (hM2.rows i _ (List.getElem?_eq_getElem hi)).1
      rw [e]; rfl
    have hr1 : (w2.alloc (.cells #[.slice (some ⟨g2, 0, none⟩) q cp2] 52)).ownsRow (w.alloc (.cells #[.slice none 0 0] 52)).heap.size 22 1 (.slice (some ⟨g1, 0, none⟩) p cp1) p vs1 := by have := hM1.row; simpa using this
    have HYS := Lib.hid hys
    have HY1 := Lib.hid hy1
    have HM1 := Lib.hid hM1
    have HM2 := Lib.hid hM2
    have HR0 := Lib.hid hr1
    clear hys hy1 hM1 hM2 hr1
    go_wp2_with (at_builtin; refine wpList_appendN rfl _ _ _ rfl (w.alloc (.cells #[.slice none 0 0] 52)).heap.size 22 _ _ Tryd.underlying50 infoRowB rfl _ p vs1 rfl HR0.out ⟨g2, 0, none⟩ q cp2 vs2 rfl hyl HYS.out HY1.out ?c1 ?c2 ?c3 ?_)
    case c1 => omega
    case c2 => omega
    case c3 => omega
    intro v' w3 hown hg hv
    obtain ⟨A', n', cp', rfl⟩ := own_isSlice hown
    have hM3 := (HM1.out.join HM2.out (by omega) (by omega) (by simpa using hown) hg (by rw [z2]; exact hv)).congr (codM_eq p q)
    have k3 : TurnIn (w.heap.size + 1) w1.heap.size (w2.alloc (.cells #[.slice (some ⟨g2, 0, none⟩) q cp2] 52)) w3 := TurnIn.of_grown hg (fun g e => by simp [Value.ownBlock] at e; omega)
    have hs3 := k3.size
    have hb3 := k3.base hb2 (by omega) (by omega)
    have hq : w3.cell? ⟨w.heap.size, 0, none⟩ = some (.slice none 0 0) := box_keep c0 (by omega) k3 (by omega)
    have hqf : w3.frozen? ⟨w.heap.size, 0, none⟩ = false := by
      have e := k3.block w.heap.size (by omega) (by omega)
      unfold World.frozen? at f0 ⊢
      rw [e]; exact f0
    clear hown hg hv
    go_wp2_with fail
    refine bodyPost_ret (v := .tuple #[.agg #[.slice A' n' cp'], .bool true]) (by simp [results, Tryd.results22, go_sem, hq]) rfl ?_
    have kk := turn_setCell w3 w.heap.size 0 (.slice A' n' cp')
    refine ⟨.slice A' n' cp', vs1 ++ vs2, by rw [HO.out], ?_, TurnIn.of_below (hb3.setCell (Nat.le_refl _) _)⟩
    rw [HR.out]
    exact (hM3.keep kk (by omega)).wider (by omega) (by simp) (by simp)
  · have HO : Hid (shapeOk k m = false) := by show shapeOk k m = false; simpa using h
    have HR := Lib.hid (codR_no HO.out)
    clear h
    go_enter Tryd.func22, Tryd.ntmps22
    go_wp2_with fail
    refine (goodShape_any _ _ _).mono ?_
    rintro e w' ⟨rfl, rfl⟩
    rw [HO.out]
    go_wp2_with fail
    refine bodyPost_ret (v := .tuple #[.agg #[.slice none 0 0], .bool false]) (by simp [results, Tryd.results22, go_sem]) rfl ?_
    exact ⟨_, [], by rw [HO.out], by rw [HR.out]; exact OwnM.nil _ _ _ _, TurnIn.of_below hb0⟩

set_option maxRecDepth 100000 in
set_option maxHeartbeats 4000000 in
theorem l3Matrix_own (p q : Nat) (w : World) (h1 : 1 ≤ p) (h2 : p ≤ 8) (h3 : 1 ≤ q) (h4 : q ≤ 6) :
    Calls Tryd.prog 32 #[.int .i64 p, .int .i64 q] w (RetMat 5 22 w (codM p q)) := by
  have hb0 : Below w.heap.size w (w.alloc (.cells #[.slice none 0 0] 52)) := (Below.refl _ _).alloc (Nat.le_refl _) _
  have hz0 := World.size_alloc w (.cells #[.slice none 0 0] 52)
  have c0 := alloc_cell w (.slice none 0 0) 52
  have l0 := alloc_lt w (.cells #[.slice none 0 0] 52)
  have f0 : (w.alloc (.cells #[.slice none 0 0] 52)).frozen? ⟨w.heap.size, 0, none⟩ = false := by simp
  go_enter Tryd.func32, Tryd.ntmps32
  go_wp2_with fail
  refine (l2Identity_own p _ h1 (by omega)).mono ?_
  rintro e w1 ⟨v1, vs1, rfl, hM1, k1⟩
  obtain ⟨g1, cp1, rfl, hg1, hg1', hcp1, hcp1'⟩ := hM1.sliceF (by omega)
  have hs1 := k1.size
  have hb1 := k1.base hb0 (by omega) (by omega)
  have a1 := turn_alloc w1 (.cells #[.slice (some ⟨g1, 0, none⟩) p cp1] 52)
  have z1 := World.size_alloc w1 (.cells #[.slice (some ⟨g1, 0, none⟩) p cp1] 52)
  replace hb1 := a1.base hb1 (by omega) (by omega)
  replace hM1 := hM1.keep a1 (by omega)
  have c1 := alloc_cell w1 (.slice (some ⟨g1, 0, none⟩) p cp1) 52
  have l1 := alloc_lt w1 (.cells #[.slice (some ⟨g1, 0, none⟩) p cp1] 52)
  have f1 : (w1.alloc (.cells #[.slice (some ⟨g1, 0, none⟩) p cp1] 52)).frozen? ⟨w1.heap.size, 0, none⟩ = false := by simp
  replace c0 := cell_turn a1 (cell_turn k1 c0 l0) (by omega)
  replace f0 := frozen_turn a1 (frozen_turn k1 f0 l0) (by omega)
  obtain ⟨W1, hW1⟩ : ∃ W1, W1 = w1.alloc (.cells #[.slice (some ⟨g1, 0, none⟩) p cp1] 52) := ⟨_, rfl⟩
  have HM1 := Lib.hid hM1
  clear hM1
  have hne1 : (Value.slice (some ⟨g1, 0, none⟩) p cp1).ownBlock ≠ some w1.heap.size := by simp [Value.ownBlock]; omega
  have hne0 : (Value.slice (some ⟨g1, 0, none⟩) p cp1).ownBlock ≠ some w.heap.size := by simp [Value.ownBlock]; omega
  have hfd : ∀ (W : World) (x : Value), (Instr.field 52 (.agg #[x]) 0).run Tryd.prog W = .ok x W := fun W x => by simp [go_sem, Instr.field, asAgg, run_underlying Tryd.underlying52]
  go_wp2_with fail
  go_region_law (first
    | (go_simp; go_at_call 56; go_must (refine (l2Cauchy_own q p _ h3 h1 (by omega) (by omega)).mono ?_; rintro e w2 ⟨v2, vs2, rfl, hM2, k2⟩; obtain ⟨g2, cp2, rfl, hg2, hg2', hcp2, hcp2'⟩ := hM2.sliceF (by omega); replace k2 := undrew k2; have d1 := cell_turn k2 c1 l1; have hs2 := k2.size; have hM1' := HM1.out.keep k2 (by omega); have hr1 : w2.ownsRow (w.alloc (.cells #[.slice none 0 0] 52)).heap.size 22 1 (.slice (some ⟨g1, 0, none⟩) p cp1) p vs1 := (by have := hM1'.row; simpa using this); have hyl : vs2.length = q := (by have := hM2.vlen; simpa using this)))
    | (refine step_appendN (by rfl) _ _ _ (by rfl) (w.alloc (.cells #[.slice none 0 0] 52)).heap.size 22 _ _ Tryd.underlying50 infoRowB rfl _ p vs1 (by rfl) hr1 ⟨g2, 0, none⟩ q cp2 vs2 (by rfl) hyl (fun j y hj => by rw [Addr.add_lit, Nat.zero_add]; exact hM2.cellAt hj) (rows_oneC hM2) (by omega) (by omega) (by omega) ?_; intro v' w3 hown hg hv; obtain ⟨A', n', cp', rfl⟩ := own_isSlice hown; have e1 := (cell_past k2 hg hne1 l1 0).trans c1; have e1f := (frozen_past k2 hg hne1 l1 0).trans f1; have e0 := (cell_past k2 hg hne0 (by omega) 0).trans c0; have e0f := (frozen_past k2 hg hne0 (by omega) 0).trans f0))
  all_goals
    have hM3 := (hM1'.join hM2 (by have : (w1.alloc (.cells #[.slice (some ⟨g1, 0, none⟩) p cp1] 52)).drew.heap.size = w1.heap.size + 1 := z1; omega) (by have : (w1.alloc (.cells #[.slice (some ⟨g1, 0, none⟩) p cp1] 52)).drew.heap.size = w1.heap.size + 1 := z1; omega) (by simpa using hown) hg hv).congr (codM_eq p q)
    have k3 : TurnIn (w.heap.size + 1) w1.heap.size w2 w3 := TurnIn.of_grown hg (fun g e => by simp [Value.ownBlock] at e; omega)
    have hs3 := k3.size
    have hb3 := k3.base (k2.base hb1 (by omega) (by omega)) (by omega) (by omega)
    have kk1 := turn_setCell w3 w1.heap.size 0 (.slice A' n' cp')
    have kk0 := turn_setCell (w3.setCell ⟨w1.heap.size, 0, none⟩ (.slice A' n' cp')) w.heap.size 0 (.slice A' n' cp')
    have hb5 := (hb3.setCell (p := ⟨w1.heap.size, 0, none⟩) (by show w.heap.size ≤ w1.heap.size; omega) (.slice A' n' cp')).setCell (p := ⟨w.heap.size, 0, none⟩) (Nat.le_refl _) (.slice A' n' cp')
    have e3 : (w3.setCell ⟨w1.heap.size, 0, none⟩ (.slice A' n' cp')).cell? ⟨w1.heap.size, 0, none⟩ = some (.slice A' n' cp') := World.cell?_setCell_same _ _ _ e1
    have e4 : (w3.setCell ⟨w1.heap.size, 0, none⟩ (.slice A' n' cp')).cell? ⟨w.heap.size, 0, none⟩ = some (.slice none 0 0) := (cell_set_other w3 0 0 _ (by omega)).trans e0
    have e5 : (w3.setCell ⟨w1.heap.size, 0, none⟩ (.slice A' n' cp')).frozen? ⟨w.heap.size, 0, none⟩ = false := (frozen_set_other w3 0 0 _ (by omega)).trans e0f
    have hM4 := hM3.other (grown_set w1.heap.size 0 (.slice A' n' cp')) (by rcases hv with e | e <;> rw [e] <;> simp [Value.ownBlock] <;> omega) (fun u hu e => by
      rcases List.mem_append.1 hu with h | h
      · have := hM1'.rowBlock u h _ e; omega
      · have h5 := hM2.rowBlock u h _ e
        have h6 : (w1.alloc (.cells #[.slice (some ⟨g1, 0, none⟩) p cp1] 52)).drew.heap.size = w1.heap.size + 1 := z1
        omega)
    have HM3 := Lib.hid hM4
    clear hM4
    clear hM3 hM1' hM2 hown hg hv hr1 hyl e1 e1f e0 e0f d1 hfd
    go_wp2_with fail
    refine bodyPost_ret (v := .agg #[.slice A' n' cp']) (by simp [results, Tryd.results32, go_sem, e4]) rfl ?_
    refine ⟨.slice A' n' cp', vs1 ++ vs2, rfl, (HM3.out.keep kk0 (by omega)).wider (by omega) (by simp) (by simp), TurnIn.of_below hb5⟩

set_option maxRecDepth 100000 in
set_option maxHeartbeats 1000000 in
theorem sCodeMatrix_own (k m : Int) (w : World) : Calls Tryd.prog 23 #[.int .i64 k, .int .i64 m] w (RetMatOk 5 22 w (codR k m) (shapeOk k m)) := by
  have hb0 : Below w.heap.size w (w.alloc (.cells #[.slice none 0 0] 52)) := (Below.refl _ _).alloc (Nat.le_refl _) _
  by_cases h : shapeOk k m = true
  · have HO := Lib.hid h
    have hb := shapeOk_b h
    clear h
    obtain ⟨p, rfl⟩ := Int.eq_ofNat_of_zero_le (show 0 ≤ k by omega)
    obtain ⟨q, rfl⟩ := Int.eq_ofNat_of_zero_le (show 0 ≤ m by omega)
    have HR := Lib.hid (codR_yes HO.out)
    go_enter Tryd.func23, Tryd.ntmps23
    go_wp2_with fail
    refine (sGoodShape_any _ _ _).mono ?_
    rintro e w' ⟨rfl, rfl⟩
    rw [HO.out]
    go_wp2_with fail
    refine (l3Matrix_own p q _ (by omega) (by omega) (by omega) (by omega)).mono ?_
    rintro e w' ⟨v', vs', rfl, hM, ht⟩
    obtain ⟨A', n', c', rfl⟩ := hM.isSlice
    have hq := cell_turn ht (B := w.heap.size) (o := 0) (x := .slice none 0 0) (by simp) (by simp)
    have hqf := frozen_turn ht (B := w.heap.size) (o := 0) (x := false) (by simp) (by simp)
    have HF := Lib.hid (ret_store hb0 hM ht w.heap.size 0 (Nat.le_refl _) (by simp) (.slice A' n' c'))
    clear hM ht hb0
    go_wp2_with fail
    refine bodyPost_ret (v := .tuple #[.agg #[.slice A' n' c'], .bool true]) (by simp [results, Tryd.results23, go_sem, hq]) rfl ?_
    exact ⟨.slice A' n' c', vs', by rw [HO.out], by rw [HR.out]; exact HF.out.1, HF.out.2⟩
  · have HO : Hid (shapeOk k m = false) := by show shapeOk k m = false; simpa using h
    have HR := Lib.hid (codR_no HO.out)
    clear h
    go_enter Tryd.func23, Tryd.ntmps23
    go_wp2_with fail
    refine (sGoodShape_any _ _ _).mono ?_
    rintro e w' ⟨rfl, rfl⟩
    rw [HO.out]
    go_wp2_with fail
    refine bodyPost_ret (v := .tuple #[.agg #[.slice none 0 0], .bool false]) (by simp [results, Tryd.results23, go_sem]) rfl ?_
    exact ⟨_, [], by rw [HO.out], by rw [HR.out]; exact OwnM.nil _ _ _ _, TurnIn.of_below hb0⟩

end Go.Proofs.YtlkoafnlklhaeabDoor

/- Increasing lists of indexes, and parts of matrices: plain functions. -/
namespace G294
def okAt (l : List Int) (size : Nat) (i : Nat) : Prop := 0 ≤ l.getD i 0 ∧ l.getD i 0 < size ∧ (0 < i → l.getD (i - 1) 0 < l.getD i 0)
instance (l : List Int) (size i : Nat) : Decidable (okAt l size i) := by unfold okAt; infer_instance
def someOk (l : List Int) (size : Nat) : Bool := decide (∀ i, i < l.length → okAt l size i)
def chosen (l : List Int) (size : Nat) : Bool := someOk l size && decide (0 < l.length)
theorem someOk_iff (l : List Int) (size : Nat) : someOk l size = true ↔ ∀ i, i < l.length → okAt l size i := by simp only [someOk, decide_eq_true_eq]
theorem someOk_no {l : List Int} {size k : Nat} (hk : k < l.length) (h : ¬ okAt l size k) : someOk l size = false := by
  rw [Bool.eq_false_iff]; intro e; exact h ((someOk_iff l size).1 e k hk)
def ptOk (m : Mat) (l c : List Int) : Bool := goodM m && chosen l m.length && chosen c (wid m)
def ptF (m : Mat) (l c : List Int) : Ents := fun i j => ent m (l.getD i 0).toNat (c.getD j 0).toNat
def ptR (m : Mat) (l c : List Int) : Mat := if ptOk m l c = true then mkM l.length c.length (ptF m l c) else []
/-- an increasing list of indexes below size is no longer than size -/
theorem okAt_lo (l : List Int) (size : Nat) (h : ∀ i, i < l.length → okAt l size i) : ∀ i, i < l.length → (i : Int) ≤ l.getD i 0 := by
  intro i
  induction i with
  | zero => intro hi; exact (h 0 hi).1
  | succ i ih =>
    intro hi
    have h1 := ih (by omega)
    have h2 := (h (i + 1) hi).2.2 (by omega)
    simp only [Nat.add_sub_cancel] at h2
    omega
theorem some_len {l : List Int} {size : Nat} (h : someOk l size = true) : l.length ≤ size := by
  have h' := (someOk_iff l size).1 h
  rcases Nat.eq_zero_or_pos l.length with h0 | h0
  · omega
  · have h1 := okAt_lo l size h' (l.length - 1) (by omega)
    have h2 := (h' (l.length - 1) (by omega)).2.1
    omega
end G294

/- Any k rows of the matrix of a Reed-Solomon code are independent. -/
namespace G294
theorem cau_inv {k r j : Nat} (h1 : k + r < 256) (h2 : j < 256) : cauF k r j = ginv (UInt8.ofNat (k + r) ^^^ UInt8.ofNat j) := by
  unfold cauF ginv
  rw [UInt8.toNat_xor, UInt8.toNat_ofNat', UInt8.toNat_ofNat', Nat.mod_eq_of_lt (show k + r < 2 ^ 8 from h1), Nat.mod_eq_of_lt (show j < 2 ^ 8 from h2)]
theorem ofNat_inj {a b : Nat} (ha : a < 256) (hb : b < 256) (h : UInt8.ofNat a = UInt8.ofNat b) : a = b := by
  have := congrArg UInt8.toNat h
  rwa [UInt8.toNat_ofNat', UInt8.toNat_ofNat', Nat.mod_eq_of_lt (show a < 2 ^ 8 from ha), Nat.mod_eq_of_lt (show b < 2 ^ 8 from hb)] at this
theorem nodup_ofNat {l : List Nat} (hn : l.Nodup) (h : ∀ x ∈ l, x < 256) : (l.map UInt8.ofNat).Nodup := by
  induction l with
  | nil => simp
  | cons x l ih =>
    have h1 := List.nodup_cons.1 hn
    rw [List.map_cons, List.nodup_cons]
    refine ⟨fun hm => ?_, ih h1.2 fun y hy => h y (by simp [hy])⟩
    obtain ⟨y, hy, e⟩ := List.mem_map.1 hm
    have := ofNat_inj (h y (by simp [hy])) (h x (by simp)) e
    exact h1.1 (this ▸ hy)
/-- no kernel -/
theorem code_ker {k m : Nat} (N : List Nat) (hn : N.Nodup) (hl : N.length = k) (hb : ∀ x ∈ N, x < k + m) (hk : k + m ≤ 256) (v : Nat → UInt8)
    (h : ∀ x ∈ N, sumK k (fun j => gmul (codF k x j) (v j)) = 0) : ∀ j, j < k → v j = 0 := by
  have h1 : ∀ j, j < k → j ∈ N → v j = 0 := fun j hj hm => by
    have := h j hm
    rw [sumK_one (k := j) _ hj (fun t ht hne => by simp only [codF, if_pos hj, idF]; rw [if_neg (fun e => hne e.symm)]; exact zero_gmul _)] at this
    simp only [codF, if_pos hj, idF, if_true] at this
    rwa [one_gmul] at this
  let Y := (List.range k).filter fun j => !decide (j ∈ N)
  let X := N.filter fun x => !decide (x < k)
  have hYX : Y.length ≤ X.length := by
    have e1 := len_parts (fun j => decide (j ∈ N)) (List.range k)
    have e2 := len_parts (fun x => decide (x < k)) N
    have e3 : (N.filter fun x => decide (x < k)).length ≤ ((List.range k).filter fun j => decide (j ∈ N)).length := len_sub (hn.filter _) fun x hx => by
      rw [List.mem_filter] at hx ⊢
      exact ⟨List.mem_range.2 (by simpa using hx.2), by simpa using hx.1⟩
    rw [List.length_range] at e1
    show ((List.range k).filter fun j => !decide (j ∈ N)).length ≤ (N.filter fun x => !decide (x < k)).length
    omega
  have hXm : ∀ x ∈ X, x ∈ N ∧ k ≤ x := fun x hx => by
    have := List.mem_filter.1 hx
    exact ⟨this.1, by simpa using this.2⟩
  have hYm : ∀ y ∈ Y, y < k ∧ y ∉ N := fun y hy => by
    have := List.mem_filter.1 hy
    exact ⟨List.mem_range.1 this.1, by simpa using this.2⟩
  have key := cau_list (Y.map UInt8.ofNat) (X.map UInt8.ofNat) (fun y => v y.toNat) (by simpa using hYX)
    (nodup_ofNat (hn.filter _) fun x hx => by have := hb x (hXm x hx).1; omega)
    (nodup_ofNat (List.nodup_range.filter _) fun y hy => by have := (hYm y hy).1; omega)
    (fun x hx y hy e => by
      obtain ⟨a, ha, rfl⟩ := List.mem_map.1 hx
      obtain ⟨b, hb', rfl⟩ := List.mem_map.1 hy
      have h3 := hb a (hXm a ha).1
      have h4 := (hYm b hb').1
      have := ofNat_inj (by omega) (by omega) e
      have := (hXm a ha).2
      omega)
    (fun x hx => by
      obtain ⟨a, ha, rfl⟩ := List.mem_map.1 hx
      obtain ⟨ha1, ha2⟩ := hXm a ha
      have h3 := hb a ha1
      rw [sumL_map]
      have hrow := h a ha1
      rw [← sumL_range] at hrow
      rw [← sumL_filter (fun j => !decide (j ∈ N)) (List.range k) _ (fun j hj hp => by
        have hjN : j ∈ N := by simpa using hp
        show gmul (codF k a j) (v j) = 0
        rw [h1 j (List.mem_range.1 hj) hjN, gmul_comm, zero_gmul])] at hrow
      rw [← hrow]
      refine sumL_congr fun j hj => ?_
      have hj' := (hYm j hj).1
      have e0 : (UInt8.ofNat j).toNat = j := by rw [UInt8.toNat_ofNat', Nat.mod_eq_of_lt (show j < 2 ^ 8 by omega)]
      rw [e0]
      simp only [codF, if_neg (Nat.not_lt.2 ha2)]
      rw [cau_inv (by omega) (by omega), show k + (a - k) = a by omega, gmul_comm])
  intro j hj
  by_cases hm : j ∈ N
  · exact h1 j hj hm
  · have hy : j ∈ Y := List.mem_filter.2 ⟨List.mem_range.2 hj, by simpa using hm⟩
    have := key (UInt8.ofNat j) (List.mem_map.2 ⟨j, hy, rfl⟩)
    simpa [UInt8.toNat_ofNat', Nat.mod_eq_of_lt (show j < 2 ^ 8 by omega)] using this
/-- an increasing list of numbers has none twice -/
theorem some_nodup {l : List Int} {size : Nat} (h : someOk l size = true) : (l.map Int.toNat).Nodup := by
  have h' := (someOk_iff l size).1 h
  have mono : ∀ i d, i + d < l.length → 0 < d → l.getD i 0 < l.getD (i + d) 0 := fun i d => by
    induction d with
    | zero => intro _ h0; omega
    | succ d ih =>
      intro hlt _
      have h2 := (h' (i + (d + 1)) hlt).2.2 (by omega)
      rw [show i + (d + 1) - 1 = i + d by omega] at h2
      rcases Nat.eq_zero_or_pos d with rfl | hd
      · simpa using h2
      · have := ih (by omega) hd; omega
  rw [List.nodup_iff_pairwise_ne, List.pairwise_iff_getElem]
  intro i j hi hj hij
  simp only [List.length_map] at hi hj
  simp only [List.getElem_map]
  have e1 := (h' i hi).1
  have e2 := mono i (j - i) (by omega) (by omega)
  rw [show i + (j - i) = j by omega] at e2
  have g1 : l.getD i 0 = l[i] := by simp [List.getD, hi]
  have g2 : l.getD j 0 = l[j] := by simp [List.getD, hj]
  rw [g1] at e1 e2
  rw [g2] at e2
  omega
/-- any k rows of the code's matrix have full rank -/
theorem code_full {k m : Nat} {l : List Int} (h : someOk l (k + m) = true) (hl : l.length = k) (hk : k + m ≤ 256) : (est (fun i j => codF k (l.getD i 0).toNat j) k k).2 = k := by
  have h' := (someOk_iff l (k + m)).1 h
  refine rank_full (Nat.le_refl _) fun v hv => ?_
  refine code_ker (m := m) (l.map Int.toNat) (some_nodup h) (by simpa using hl) (fun x hx => ?_) hk v (fun x hx => ?_)
  · obtain ⟨a, ha, rfl⟩ := List.mem_map.1 hx
    obtain ⟨i, hi, rfl⟩ := List.getElem_of_mem ha
    have := h' i hi
    unfold okAt at this
    have g1 : l.getD i 0 = l[i] := by simp [List.getD, hi]
    rw [g1] at this
    omega
  · obtain ⟨a, ha, rfl⟩ := List.mem_map.1 hx
    obtain ⟨i, hi, rfl⟩ := List.getElem_of_mem ha
    have := hv i (by omega)
    have g1 : l.getD i 0 = l[i] := by simp [List.getD, hi]
    simpa only [g1] using this
end G294
