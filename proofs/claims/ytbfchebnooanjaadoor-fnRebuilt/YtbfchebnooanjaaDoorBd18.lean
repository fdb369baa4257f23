/- Joined texts: PartMath, SpecPart, SpecEncode, SpecDecode, SlvS, TabOf. -/
import Derived.Test.YtbfchebnooanjaaDoorBd01
import Derived.Test.YtbfchebnooanjaaDoorBd00
import Derived.Test.YtbfchebnooanjaaDoorBd06
import Derived.Test.YtbfchebnooanjaaDoorBd05
import Derived.Test.YtbfchebnooanjaaDoorBd11
import Derived.Test.YtbfchebnooanjaaDoorBd12
import Derived.Test.YtbfchebnooanjaaDoorBd10
import Derived.Test.YtbfchebnooanjaaDoorBd17
import Derived.Test.YtbfchebnooanjaaDoorBd15
import Derived.Test.YtbfchebnooanjaaDoorRows
import Derived.Test.YtbfchebnooanjaaDoorBd02
set_option linter.unusedSimpArgs false
set_option linter.unusedVariables false
/- Increasing lists of indexes, and parts of matrices: plain functions. -/
namespace G294
def okAt (l : List Int) (size : Nat) (i : Nat) : Prop := 0 ≤ l.getD i 0 ∧ l.getD i 0 < size ∧ (0 < i → l.getD (i - 1) 0 < l.getD i 0)
instance (l : List Int) (size i : Nat) : Decidable (okAt l size i) := by unfold okAt; infer_instance
def someOk (l : List Int) (size : Nat) : Bool := decide (∀ i, i < l.length → okAt l size i)
def chosen (l : List Int) (size : Nat) : Bool := someOk l size && decide (0 < l.length)
theorem someOk_iff (l : List Int) (size : Nat) : someOk l size = true ↔ ∀ i, i < l.length → okAt l size i := by simp only [someOk, decide_eq_true_eq]
theorem someOk_no {l : List Int} {size k : Nat} (hk : k < l.length) (h : ¬ okAt l size k) : someOk l size = false := by
  rw [Bool.eq_false_iff]; intro e; exact h ((someOk_iff l size).1 e k hk)
def ptOk (m : Mat) (l c : List Int) : Bool := goodM m && chosen l m.length && chosen c (wid m)
def ptF (m : Mat) (l c : List Int) : Ents := fun i j => ent m (l.getD i 0).toNat (c.getD j 0).toNat
def ptR (m : Mat) (l c : List Int) : Mat := if ptOk m l c = true then mkM l.length c.length (ptF m l c) else []
/-- an increasing list of indexes below size is no longer than size -/
theorem okAt_lo (l : List Int) (size : Nat) (h : ∀ i, i < l.length → okAt l size i) : ∀ i, i < l.length → (i : Int) ≤ l.getD i 0 := by
  intro i
  induction i with
  | zero => intro hi; exact (h 0 hi).1
  | succ i ih =>
    intro hi
    have h1 := ih (by omega)
    have h2 := (h (i + 1) hi).2.2 (by omega)
    simp only [Nat.add_sub_cancel] at h2
    omega
theorem some_len {l : List Int} {size : Nat} (h : someOk l size = true) : l.length ≤ size := by
  have h' := (someOk_iff l size).1 h
  rcases Nat.eq_zero_or_pos l.length with h0 | h0
  · omega
  · have h1 := okAt_lo l size h' (l.length - 1) (by omega)
    have h2 := (h' (l.length - 1) (by omega)).2.1
    omega
end G294

/- The model's PartOf. -/
namespace Go.Proofs.YtbfchebnooanjaaDoor
open Go.RowKit G294

set_option maxRecDepth 100000 in
set_option maxHeartbeats 4000000 in
theorem l2Part_own (r c : Nat) (F : Ents) (l m : List Int) (v u x : Value) (w : World) (hs : SeenM w v (mkM r c F)) (hl : Seen w u (ints l)) (hm : Seen w x (ints m))
    (hlo : ∀ i, i < l.length → 0 ≤ l.getD i 0 ∧ l.getD i 0 < r) (hmo : ∀ i, i < m.length → 0 ≤ m.getD i 0 ∧ m.getD i 0 < c) (hn : l.length ≤ 1000) (hn2 : m.length ≤ 1000) :
    Calls Tryd.prog 85 #[.agg #[v], u, x] w (RetMat 5 22 w (mkM l.length m.length fun i j => F (l.getD i 0).toNat (m.getD j 0).toNat)) := by
  have k1 : TurnIn 0 0 w (w.alloc (.cells #[v] 67)) := turn_alloc _ _
  have k3 : TurnIn 0 0 w (((w.alloc (.cells #[v] 67)).alloc (.cells #[.slice none 0 0] 67)).alloc (.cells #[.slice none 0 0] 67)) := turn_trans (turn_trans k1 (turn_alloc _ _) (by omega)) (turn_alloc _ _) (by omega)
  have z3 : (((w.alloc (.cells #[v] 67)).alloc (.cells #[.slice none 0 0] 67)).alloc (.cells #[.slice none 0 0] 67)).heap.size = w.heap.size + 3 := by simp
  have q0 : (((w.alloc (.cells #[v] 67)).alloc (.cells #[.slice none 0 0] 67)).alloc (.cells #[.slice none 0 0] 67)).cell? ⟨w.heap.size, 0, none⟩ = some v := cell_turn (turn_trans (turn_alloc _ _) (turn_alloc _ _) (by omega)) (show (w.alloc (.cells #[v] 67)).cell? ⟨w.heap.size, 0, none⟩ = some v by simp) (by simp)
  have q1 : (((w.alloc (.cells #[v] 67)).alloc (.cells #[.slice none 0 0] 67)).alloc (.cells #[.slice none 0 0] 67)).cell? ⟨w.heap.size + 1, 0, none⟩ = some (.slice none 0 0) := alloc_mid_cell _ _ _ _ _
  have q1f : (((w.alloc (.cells #[v] 67)).alloc (.cells #[.slice none 0 0] 67)).alloc (.cells #[.slice none 0 0] 67)).frozen? ⟨w.heap.size + 1, 0, none⟩ = false := alloc_mid_frozen _ _ _ _ _
  have q2 : (((w.alloc (.cells #[v] 67)).alloc (.cells #[.slice none 0 0] 67)).alloc (.cells #[.slice none 0 0] 67)).cell? ⟨w.heap.size + 1 + 1, 0, none⟩ = some (.slice none 0 0) := alloc_last_cell _ _ _ _ _
  have q2f : (((w.alloc (.cells #[v] 67)).alloc (.cells #[.slice none 0 0] 67)).alloc (.cells #[.slice none 0 0] 67)).frozen? ⟨w.heap.size + 1 + 1, 0, none⟩ = false := alloc_last_frozen _ _ _ _ _
  have hM0 : OwnM 5 22 (((w.alloc (.cells #[v] 67)).alloc (.cells #[.slice none 0 0] 67)).alloc (.cells #[.slice none 0 0] 67)) (w.heap.size + 3) (((w.alloc (.cells #[v] 67)).alloc (.cells #[.slice none 0 0] 67)).alloc (.cells #[.slice none 0 0] 67)).heap.size (.slice none 0 0) (mkM 0 m.length fun i j => F (l.getD i 0).toNat (m.getD j 0).toNat) [] := OwnM.nil _ _ _ _
  obtain ⟨A, cp, hvv, _, _⟩ := hs.len
  obtain ⟨A1, c1, hu⟩ := hl.len
  obtain ⟨A2, c2, hx⟩ := hm.len
  rw [ints_length] at hu hx
  rw [mkM_length] at hvv
  subst hu hx hvv
  have HS := Lib.hid hs
  have HL := Lib.hid hl
  have HM := Lib.hid hm
  have HLO := Lib.hid hlo
  have HMO := Lib.hid hmo
  have K3 := Lib.hid k3
  have HM0 := Lib.hid hM0
  clear hs hl hm hlo hmo k1 k3 hM0
  obtain ⟨n, hnn⟩ : ∃ n, n = l.length := ⟨_, rfl⟩
  obtain ⟨n2, hnn2⟩ : ∃ n, n = m.length := ⟨_, rfl⟩
  have HN := Lib.hid hnn
  have HN2 := Lib.hid hnn2
  rw [← hnn] at hn HL ⊢
  rw [← hnn2] at hn2 HM HM0 ⊢
  clear hnn hnn2
  go_enter Tryd.func85, Tryd.ntmps85
  go_wp2_with fail
  generalize (((w.alloc (.cells #[.slice A r cp] 67)).alloc (.cells #[.slice none 0 0] 67)).alloc (.cells #[.slice none 0 0] 67)) = w3 at *
  go_loopw [16] (fun i wr => ∃ (k : Nat) (o : Value) (vs : List Value), k ≤ n ∧ i = .int .i64 k ∧ Hid (OwnM 5 22 wr (w.heap.size + 3) wr.heap.size o (mkM k n2 fun i j => F (l.getD i 0).toNat (m.getD j 0).toNat) vs) ∧
      wr.cell? ⟨w.heap.size + 1 + 1, 0, none⟩ = some o ∧ wr.frozen? ⟨w.heap.size + 1 + 1, 0, none⟩ = false ∧ wr.cell? ⟨w.heap.size + 1, 0, none⟩ = some (.slice none 0 0) ∧ wr.frozen? ⟨w.heap.size + 1, 0, none⟩ = false ∧ wr.cell? ⟨w.heap.size, 0, none⟩ = some (.slice A r cp) ∧ Hid (Below w.heap.size w wr) ∧ w.heap.size + 3 ≤ wr.heap.size)
    (fun i _ => n - (intOf i).toNat)
  case atStart => exact ⟨0, .slice none 0 0, [], Nat.zero_le _, rfl, HM0, q2, q2f, q1, q1f, q0, Lib.hid K3.out.to_below, by omega⟩
  case round =>
    obtain ⟨k, o, vs, hk, rfl, HO, hc2, hf2, hc1, hf1, hc0, HB, hsz⟩ := hrel
    clear q0 q1 q1f q2 q2f z3
    by_cases hlt : k < n
    · have hki : (k : Int) < (n : Int) := by omega
      have hkl : k < l.length := by rw [← HN.out]; exact hlt
      obtain ⟨p, hp⟩ := Int.eq_ofNat_of_zero_le (HLO.out k hkl).1
      have hpr : p < r := by have := (HLO.out k hkl).2; omega
      have HP := Lib.hid hp
      obtain ⟨A3, c3, e3, hlc3, hcm3, hx3⟩ := HL.out.below HB.out
      rw [ints_length, ← HN.out] at e3 hlc3 hx3
      simp only [Value.slice.injEq] at e3
      obtain ⟨rfl, z9, rfl⟩ := e3
      clear z9
      obtain ⟨b3, o3, rfl, hb3, hc3⟩ := hx3 (by omega)
      have g3 := hc3 k _ (ints_get l k hkl)
      have e4 : l[k] = (p : Int) := by simp [List.getD, hkl] at hp; exact hp
      rw [e4] at g3
      unfold maxLen at hcm3
      clear hc3 hx3 e4 hp
      obtain ⟨B0, hB0⟩ : ∃ B0, B0 = wr.heap.size := ⟨_, rfl⟩
      have hB1 : B0 ≤ wr.heap.size := by omega
      have hB2 : wr.heap.size ≤ B0 := by omega
      clear hB0
      go_wp2_with fail
      go_loopw [10, 22] (fun y i wq => ∃ mm : Nat, mm ≤ n2 ∧ i = .int .i64 mm ∧ Hid (wq.ownsRow B0 5 1 y mm (bys (mkRow mm fun j => F p (m.getD j 0).toNat))) ∧ Hid (TurnIn 0 0 wr wq))
        (fun _ i _ => n2 - (intOf i).toNat)
      case atStart => exact ⟨0, Nat.zero_le _, rfl, Lib.hid (World.ownsRow_nil _ _ _ _), Lib.hid (TurnIn.refl _)⟩
      case round =>
        obtain ⟨mm, hmm, rfl, HOWN, HT⟩ := hrel
        have hst := HT.out.size
        have hBB := HT.out.base HB.out (by omega) (by omega)
        have HBB := Lib.hid hBB
        have hc0' := cell_turn HT.out hc0 (by omega)
        clear hBB
        by_cases hlm : mm < n2
        · have hmi : (mm : Int) < (n2 : Int) := by omega
          have hml : mm < m.length := by rw [← HN2.out]; exact hlm
          obtain ⟨q, hq⟩ := Int.eq_ofNat_of_zero_le (HMO.out mm hml).1
          have hqr : q < c := by have := (HMO.out mm hml).2; omega
          have HQ := Lib.hid hq
          obtain ⟨A4, c4, e5, hlc4, hcm4, hx4⟩ := HM.out.below HBB.out
          rw [ints_length, ← HN2.out] at e5 hlc4 hx4
          simp only [Value.slice.injEq] at e5
          obtain ⟨rfl, z9, rfl⟩ := e5
          clear z9
          obtain ⟨b4, o4, rfl, hb4, hc4⟩ := hx4 (by omega)
          have g4 := hc4 mm _ (ints_get m mm hml)
          have e4 : m[mm] = (q : Int) := by simp [List.getD, hml] at hq; exact hq
          rw [e4] at g4
          unfold maxLen at hcm4
          obtain ⟨bb, off, cp5, b', off', c', e6, hl5, h5, h6, h7, hl6, h8⟩ := (HS.out.below HBB.out).cellF p q hpr hqr
          simp only [Value.slice.injEq] at e6
          obtain ⟨rfl, z9, rfl⟩ := e6
          clear z9
          unfold maxLen at hl5 hl6
          have hown := HOWN.out
          have HF : Hid (F p (m.getD mm 0).toNat = F p q) := by show F p _ = F p q; rw [HQ.out]; rfl
          have hpi : (p : Int) < (r : Int) := by omega
          have hqi : (q : Int) < (c : Int) := by omega
          clear hc4 hx4 e4 hq
          go_wp2_with (at_builtin; refine wpList_append1 rfl _ _ _ rfl _ 5 _ _ Tryd.underlying22 infoByte rfl _ mm _ rfl (hown.alloc _) wr.heap.size (.int .u8 ((F p q).toNat : Int)) rfl ?c1 rfl ?c2 ?c3 ?c4 ?_)
          case c1 => simp
          case c2 => omega
          case c3 => omega
          case c4 => simp; omega
          intro v' w' hown' hg' _
          have hT2 := turn_trans (turn_trans HT.out (turn_alloc wr (.cells #[.int .u8 ((F p q).toNat : Int)] 5)) (by omega)) (TurnIn.of_grown hg' (fun g e => (hown.alloc (.cells #[.int .u8 ((F p q).toNat : Int)] 5)).lt g e)) (by omega)
          have hown2 : w'.ownsRow B0 5 1 v' (mm + 1) (bys (mkRow (mm + 1) fun j => F p (m.getD j 0).toNat)) := by
            have e : (mkRow (mm + 1) fun j => F p (m.getD j 0).toNat) = (mkRow mm fun j => F p (m.getD j 0).toNat) ++ [F p q] := by
              rw [← HF.out]; simp [mkRow, List.range_succ]
            rw [e, bys_append]; exact hown'
          have HT2 := Lib.hid hT2
          have HOWN2 := Lib.hid hown2
          clear hown' hg' hown2 hT2 hown
          go_wp2_with fail
          go_roundw
          case rel => exact ⟨mm + 1, by omega, by go_num, HOWN2, HT2⟩
          case measure => simp [intOf]; omega
        · obtain rfl : mm = n2 := by omega
          have hmi : ¬ (mm : Int) < (mm : Int) := by omega
          obtain ⟨A5, n5, c5, rfl⟩ := own_isSlice HOWN.out
          obtain ⟨A6, n6, c6, rfl⟩ := HO.out.isSlice
          have hrow : wr.ownsRow (w.heap.size + 3) 22 1 (.slice A6 n6 c6) k vs := by simpa using (HO.out.keep HT.out (by omega)).row
          have hob : ∀ g, (Value.slice A6 n6 c6).ownBlock = some g → w.heap.size + 3 ≤ g := fun g e => (hrow.lt g e).1
          have hne2 : (Value.slice A6 n6 c6).ownBlock ≠ some (w.heap.size + 1 + 1) := fun e => by have := hob _ e; omega
          have hne1 : (Value.slice A6 n6 c6).ownBlock ≠ some (w.heap.size + 1) := fun e => by have := hob _ e; omega
          have hne0 : (Value.slice A6 n6 c6).ownBlock ≠ some w.heap.size := fun e => by have := hob _ e; omega
          have kW := turn_trans HT.out (turn_alloc wr (.cells #[.slice A5 n5 c5] 22)) (by omega)
          have hR : OwnBytes 5 (wr.alloc (.cells #[.slice A5 n5 c5] 22)) B0 wr.heap.size (.slice A5 n5 c5) (mkRow mm fun j => F p (m.getD j 0).toNat) := ⟨by simpa using HOWN.out.alloc _, by simp, fun g e => (HOWN.out.lt g e).2⟩
          have hc2' := cell_turn HT.out hc2 (by omega)
          go_wp2_with (at_builtin; refine wpList_append1 rfl _ _ _ rfl (w.heap.size + 3) 22 _ _ Tryd.underlying65 infoRowB rfl _ k vs rfl (hrow.alloc _) wr.heap.size (.slice A5 n5 c5) rfl ?d1 rfl ?d2 ?d3 ?d4 ?_)
          case d2 => omega
          case d4 => omega
          intro v' w' hown' hg' hv'
          obtain ⟨A7, n7, c7, rfl⟩ := own_isSlice hown'
          have g2 := (cell_past kW hg' hne2 (by omega) 0).trans hc2
          have g2f := (frozen_past kW hg' hne2 (by omega) 0).trans hf2
          have g1 := (cell_past kW hg' hne1 (by omega) 0).trans hc1
          have g1f := (frozen_past kW hg' hne1 (by omega) 0).trans hf1
          have g0 := (cell_past kW hg' hne0 (by omega) 0).trans hc0
          have hM5 := (((HO.out.push kW hR hB2 (by omega) (by simpa using hown') hg' (by rw [World.size_alloc]; exact hv')).keep (turn_setCell w' (w.heap.size + 1 + 1) 0 (.slice A7 n7 c7)) (by omega)).congr (L' := mkM (k + 1) mm fun i j => F (l.getD i 0).toNat (m.getD j 0).toNat) (by rw [mkM_succ, HP.out]; rfl))
          have HM5 := Lib.hid hM5
          have hsw : wr.heap.size ≤ w'.heap.size := by have := hg'.size; have e : (wr.alloc (.cells #[.slice A5 n5 c5] 22)).heap.size = wr.heap.size + 1 := by simp
                                                       omega
          have hb5 : Below w.heap.size w (w'.setCell ⟨w.heap.size + 1 + 1, 0, none⟩ (.slice A7 n7 c7)) := Below.setCell (TurnIn.base (TurnIn.of_grown hg' (fun g e => (hrow.alloc (.cells #[.slice A5 n5 c5] 22)).lt g e)) (kW.base HB.out (by omega) (by omega)) (by have := kW.size; omega) (by omega)) (show w.heap.size ≤ w.heap.size + 1 + 1 by omega) _
          have HB5 := Lib.hid hb5
          clear hM5 hb5 hown' hg' hv' hR kW hrow hob hc0 hc1 hf1 hc2 hf2
          go_wp2_with fail
          go_roundw
          case rel => exact ⟨k + 1, .slice A7 n7 c7, _, by omega, by go_num, Lib.hid (HM5.out.wider (Nat.le_refl _) (by simp) (Nat.le_refl _)), World.cell?_setCell_same _ _ _ g2, by simp [g2f], (cell_set_other w' _ _ _ (by omega)).trans g1, (frozen_set_other w' _ _ _ (by omega)).trans g1f, (cell_set_other w' _ _ _ (by omega)).trans g0, HB5, by simp; omega⟩
          case measure => simp [intOf]; omega
    · obtain rfl : k = n := by omega
      have hki : ¬ (k : Int) < (k : Int) := by omega
      obtain ⟨A9, n9, c9, rfl⟩ := HO.out.isSlice
      go_wp2_with fail
      refine bodyPost_ret (v := .agg #[.slice A9 n9 c9]) (by simp [results, Tryd.results85, go_sem, hc1]) rfl ?_
      have kk := turn_setCell wr (w.heap.size + 1) 0 (.slice A9 n9 c9)
      exact ⟨_, vs, rfl, (HO.out.keep kk (by omega)).wider (by omega) (by simp) (by simp), TurnIn.of_below (HB.out.setCell (Nat.le_succ _) _)⟩

end Go.Proofs.YtbfchebnooanjaaDoor

/- EncodeShards: the model's. -/
namespace G294
open Go Go.RowKit
theorem shards_rows (r c n : Nat) (F : Ents) (T : List (List UInt8)) (k : Nat) (h : k < r) : (rowsT r c n F T)[k]? = some (comb c n (F k) T) := by
  simp [rowsT, mkM, h, comb]
/-- append(s, x) of one struct of two cells, onto a row of the call's own -/
theorem wpList_append2 {P : Program} {w : World} {ops : Array Oper} {rest : List Oper} {o : Oper} {a : Act} {Q : Exit → Act → World → Prop} (hgd : o.guard = none) (s x : Operand) (t : TypeId)
    (ho : o.op = .call { callee := .builtin .append, args := #[s, x], argTypes := #[t, t] })
    (base : Nat) (e : TypeId) (z : Value) (bytes : Nat) (ht : P.underlying t = some (.slice e)) (hinfo : (P.info? e).map (fun i => (i.zero, i.size, i.bytes)) = some (some z, 2, bytes)) (hzs : z.cells.size = 2)
    (v : Value) (n : Nat) (xs : List Value) (hs : a.eval s = v) (hown : w.ownsRow base e 2 v n xs)
    (g : Nat) (u u' : Value) (hx : a.eval x = .slice (some ⟨g, 0, none⟩) 1 1) (hc : w.cell? ⟨g, 0, none⟩ = some u) (hc' : w.cell? ⟨g, 1, none⟩ = some u') (h1 : u.oneCell' = true) (h2 : u'.oneCell' = true)
    (hn : n ≤ 1000000000) (hby : bytes ≤ 1000) (hbase : base ≤ w.heap.size)
    (h : ∀ v' w', w'.ownsRow base e 2 v' (n + 1) (xs ++ [u, u']) → w.grownBy w' v.ownBlock → (v'.ownBlock = v.ownBlock ∨ v'.ownBlock = some w.heap.size) → wpList P ops Q rest (a.put o.dst v') w') :
    wpList P ops Q (o :: rest) a w := by
  obtain ⟨i, hi, hz, hsz, hbs⟩ := info_parts hinfo
  refine wpList_append_own_at w hgd s x t ho base e i z 2 bytes ht hi hz hsz hbs hzs (by omega) v n xs hs hown ⟨g, 0, none⟩ 1 1 [u, u'] hx rfl ?_ ?_ ?_ ?_ hbase (fun v' w' h2 h3 _ h5 => h v' w' h2 h3 h5)
  · intro j y hj
    match j, hj with
    | 0, hj => simp at hj; subst hj; simpa [Addr.add] using hc
    | 1, hj => simp at hj; subst hj; simpa [Addr.add] using hc'
  · intro y hy
    simp only [List.mem_cons, List.not_mem_nil, or_false] at hy
    rcases hy with rfl | rfl
    · exact h1
    · exact h2
  · unfold maxLen; omega
  · have : (n + 1) * bytes ≤ 1000000001 * 1000 := Nat.mul_le_mul (by omega) hby
    omega
end G294
namespace Go.Proofs.YtbfchebnooanjaaDoor
open Go.RowKit G294

set_option maxRecDepth 100000 in
set_option maxHeartbeats 4000000 in
theorem sEncodeShards_own (v : Value) (T : List (List UInt8)) (m : Int) (w : World) (hv : Seen w v (strs T)) :
    Calls Tryd.prog 51 #[v, .int .i64 m] w (RetShsOk 27 w (encR T m) (encOk T m)) := by
  have HV := Lib.hid hv
  obtain ⟨A, cp, hvv⟩ := hv.len
  rw [strs_length] at hvv
  subst hvv
  clear hv
  by_cases hs : shapeOk T.length m = true
  · have HS := Lib.hid hs
    have hbs := shapeOk_b hs
    obtain ⟨q, rfl⟩ := Int.eq_ofNat_of_zero_le (show 0 ≤ m by omega)
    clear hs
    by_cases htx : textsOk T = true
    · have HT := Lib.hid htx
      have HO : Hid (encOk T q = true) := by show encOk T q = true; rw [encOk, HS.out, HT.out]; rfl
      have HR := Lib.hid (encR_yes HO.out)
      have HAT := Lib.hid (textsOk_at htx)
      have hn40 := textsOk_first htx
      clear htx
      generalize hk : T.length = k at *
      have HK := Lib.hid hk
      generalize hnn : (T.getD 0 []).length = n at *
      have HNN := Lib.hid hnn
      clear hk hnn
      have hk8 : 1 ≤ k ∧ k ≤ 8 := by omega
      have hq6 : 1 ≤ q ∧ q ≤ 6 := by omega
      go_enter Tryd.func51, Tryd.ntmps51
      go_wp2_with fail
      refine (sGoodShape_any _ _ _).mono ?_
      rintro e w' ⟨rfl, rfl⟩
      rw [HS.out]
      go_wp2_with fail
      refine (l3Texts_any _ T _ HV.out).mono ?_
      rintro e w' ⟨rfl, rfl⟩
      rw [HT.out]
      go_wp2_with fail
      refine (l3Matrix_own k q _ (by omega) (by omega) (by omega) (by omega)).mono ?_
      rintro e w1 ⟨v1, vs1, rfl, hM1, k1⟩
      have hs1 := k1.size
      have HM1 := Lib.hid hM1
      clear hM1
      go_wp2_with fail
      refine (l3Rows_own (k + q) k n (codF k) T _ _ _ HM1.out.seen (HV.out.below k1.to_below) HK.out (by omega) (by omega) (by omega) HAT.out (by omega)).mono ?_
      rintro e w2 ⟨v2, rfl, hO2, k2⟩
      have hs2 := k2.size
      have hB2 : Below w.heap.size w w2 := k2.base k1.to_below (by omega) (by omega)
      obtain ⟨A2, c2, rfl, hlc2, hcm2, hx2⟩ := hO2.seen
      rw [strs_length, rowsT_length] at hlc2 hx2
      rw [strs_length, rowsT_length]
      obtain ⟨b, off, rfl, hbl, hcell⟩ := hx2 (by omega)
      have HC : Hid (∀ j, j < k + q → w2.cell? ⟨b, off + j, none⟩ = some (.string (str (comb k n (codF k j) T)))) := fun j hj => by
        refine hcell j _ ?_
        simp only [strs, List.getElem?_map, shards_rows _ _ _ _ _ _ hj, Option.map_some]
      unfold maxLen at hcm2
      clear hcell hx2 hO2
      generalize hrr : k + q = r at *
      go_wp2_with fail
      go_loopw [6, 26] (fun o i wr => ∃ j : Nat, j ≤ r ∧ i = .int .i64 j ∧ wr.ownsRow w2.heap.size 27 2 o j (shs ((shardsF r k n (codF k) T).take j)) ∧ Below w2.heap.size w2 wr)
        (fun _ i _ => r - (intOf i).toNat)
      case atStart => exact ⟨0, Nat.zero_le _, rfl, World.ownsRow_nil _ _ _ _, Below.refl _ _⟩
      case round =>
        obtain ⟨j, hj, rfl, hown, hb⟩ := hrel
        have hbs2 := hb.size
        by_cases hlt : j < r
        · have hji : (j : Int) < (r : Int) := by omega
          have hcx := (hb.cell (p := ⟨b, off + j, none⟩) hbl).trans (HC.out j hlt)
          go_wp2_with (at_builtin; refine wpList_append2 rfl _ _ _ rfl w2.heap.size 27 _ _ Tryd.underlying23 infoShard rfl _ j _ rfl (hown.alloc _) wr.heap.size (.int .i64 j) (.string (str (comb k n (codF k j) T))) rfl ?c1 ?c5 rfl rfl ?c2 ?c3 ?c4 ?_)
          case c1 => simp
          case c5 => simp
          case c2 => omega
          case c3 => omega
          case c4 => simp; omega
          intro v' w' hown' hg' _
          have hb' : Below w2.heap.size w2 w' := below_append (hb.alloc hbs2 _) (hown.alloc _) hg' (Nat.le_refl _) (by simp; omega)
          have hown3 : w'.ownsRow w2.heap.size 27 2 v' (j + 1) (shs ((shardsF r k n (codF k) T).take (j + 1))) := by
            rw [shardsF_take _ _ _ _ _ _ hlt, shs_append]; exact hown'
          clear hown' hg'
          go_wp2_with fail
          go_roundw
          case rel => exact ⟨j + 1, by omega, by go_num, hown3, hb'⟩
          case measure => simp [intOf]; omega
        · obtain rfl : j = r := by omega
          have hji : ¬ (j : Int) < (j : Int) := by omega
          go_wp2_with fail
          go_ret2
          refine ⟨_, by rw [HO.out]; rfl, ?_, TurnIn.of_below (hB2.trans (hb.mono (by omega)))⟩
          rw [List.take_of_length_le (by simp)] at hown
          rw [HR.out, encL, HNN.out, hrr]
          exact OwnSh.of_made (w := w) (own_base (by simpa using hown) (by omega))
    · have HT : Hid (textsOk T = false) := by show textsOk T = false; simpa using htx
      have HO : Hid (encOk T q = false) := by show encOk T q = false; rw [encOk, HT.out]; simp
      have HR := Lib.hid (encR_no HO.out)
      clear htx
      generalize hk : T.length = k at *
      go_enter Tryd.func51, Tryd.ntmps51
      go_wp2_with fail
      refine (sGoodShape_any _ _ _).mono ?_
      rintro e w' ⟨rfl, rfl⟩
      rw [HS.out]
      go_wp2_with fail
      refine (l3Texts_any _ T _ HV.out).mono ?_
      rintro e w' ⟨rfl, rfl⟩
      rw [HT.out]
      go_wp2_with fail
      go_ret2
      exact ⟨.slice none 0 0, by rw [HO.out]; rfl, by rw [HR.out]; exact OwnSh.nil _ _ _, TurnIn.refl _⟩
  · have HS : Hid (shapeOk T.length m = false) := by show shapeOk T.length m = false; simpa using hs
    have HO : Hid (encOk T m = false) := by show encOk T m = false; rw [encOk, HS.out]; rfl
    have HR := Lib.hid (encR_no HO.out)
    clear hs
    generalize hk : T.length = k at *
    go_enter Tryd.func51, Tryd.ntmps51
    go_wp2_with fail
    refine (sGoodShape_any _ _ _).mono ?_
    rintro e w' ⟨rfl, rfl⟩
    rw [HS.out]
    go_wp2_with fail
    go_ret2
    exact ⟨.slice none 0 0, by rw [HO.out]; rfl, by rw [HR.out]; exact OwnSh.nil _ _ _, TurnIn.refl _⟩

end Go.Proofs.YtbfchebnooanjaaDoor

/- Decoding shards: the model's. -/
namespace G294
open Go Go.RowKit
/-- the rows of the code that the first shards name -/
def usedG (k : Nat) (l : List Sh) : Ents := fun i j => codF k (l.getD i (0, [])).1.toNat j
def usedF (k : Nat) (l : List Sh) : Ents := ent (mkM k k (usedG k l))
theorem used_mk (k : Nat) (l : List Sh) : mkM k k (usedF k l) = mkM k k (usedG k l) := mkM_congr fun i j hi hj => ent_mkM _ _ _ _ _ hi hj
def nosK (k : Nat) (l : List Sh) : List Int := (l.take k).map (·.1)
def txtK (k : Nat) (l : List Sh) : List (List UInt8) := (l.take k).map (·.2)
def decX (k n : Nat) (l : List Sh) : List (List UInt8) := rowsT k k n (bst (usedF k l) idF k k) (txtK k l)
def usedOk (k : Nat) (l : List Sh) : Bool := decide ((est (usedF k l) k k).2 = k)
def decY (k n : Nat) (l : List Sh) : List (List UInt8) := if usedOk k l = true then decX k n l else []
theorem decY_yes {k n : Nat} {l : List Sh} (h : usedOk k l = true) : decY k n l = decX k n l := if_pos h
theorem decY_no {k n : Nat} {l : List Sh} (h : usedOk k l = false) : decY k n l = [] := if_neg (by rw [h]; simp)
theorem nosK_succ {l : List Sh} {k : Nat} {s : Sh} (h : l[k]? = some s) : nosK (k + 1) l = nosK k l ++ [s.1] := by simp [nosK, List.take_add_one, h]
theorem txtK_succ {l : List Sh} {k : Nat} {s : Sh} (h : l[k]? = some s) : txtK (k + 1) l = txtK k l ++ [s.2] := by simp [txtK, List.take_add_one, h]
theorem nosK_length {l : List Sh} {k : Nat} (h : k ≤ l.length) : (nosK k l).length = k := by simp [nosK]; omega
theorem txtK_length {l : List Sh} {k : Nat} (h : k ≤ l.length) : (txtK k l).length = k := by simp [txtK]; omega
theorem nosK_get {l : List Sh} {k i : Nat} (h : k ≤ l.length) (hi : i < k) : (nosK k l).getD i 0 = (l.getD i (0, [])).1 := by
  have : i < l.length := by omega
  simp [nosK, List.getD, List.getElem?_map, List.getElem?_take, hi, this]
theorem txtK_get {l : List Sh} {k i : Nat} (h : k ≤ l.length) (hi : i < k) : (txtK k l).getD i [] = (l.getD i (0, [])).2 := by
  have : i < l.length := by omega
  simp [txtK, List.getD, List.getElem?_map, List.getElem?_take, hi, this]
theorem range_get {k j : Nat} (h : j < k) : ((List.range k).map fun i : Nat => (i : Int)).getD j 0 = (j : Int) := by simp [List.getD, h]
theorem used_eq {l : List Sh} {k : Nat} (h : k ≤ l.length) : mkM (nosK k l).length ((List.range k).map fun i : Nat => (i : Int)).length (fun i j => codF k ((nosK k l).getD i 0).toNat (((List.range k).map fun i : Nat => (i : Int)).getD j 0).toNat) = mkM k k (usedF k l) := by
  rw [nosK_length h]
  simp only [List.length_map, List.length_range]
  rw [used_mk]
  unfold mkM mkRow
  refine List.map_congr_left fun i hi => List.map_congr_left fun j hj => ?_
  rw [List.mem_range] at hi hj
  show codF k ((nosK k l).getD i 0).toNat (((List.range k).map fun i : Nat => (i : Int)).getD j 0).toNat = usedG k l i j
  rw [nosK_get h hi, range_get hj]
  simp [usedG]
end G294
namespace Go.Proofs.YtbfchebnooanjaaDoor
open Go.RowKit G294

set_option maxRecDepth 100000 in
set_option maxHeartbeats 4000000 in
theorem l3Decode_own (k q n : Nat) (l : List Sh) (v : Value) (w : World) (hv : SeenH w v l) (hk : 1 ≤ k ∧ k ≤ 8) (hq : 1 ≤ q ∧ q ≤ 6) (hkl : k ≤ l.length)
    (hno : ∀ (i : Nat) (s : Sh), l[i]? = some s → 0 ≤ s.1 ∧ s.1 < ((k + q : Nat) : Int)) (htx : ∀ (i : Nat) (s : Sh), l[i]? = some s → s.2.length = n) (hn : n ≤ 40) :
    Calls Tryd.prog 60 #[v, .int .i64 k, .int .i64 q] w (RetStrsOk 9 w (decY k n l) (usedOk k l)) := by
  have HNO : Hid (∀ i, i < (nosK k l).length → 0 ≤ (nosK k l).getD i 0 ∧ (nosK k l).getD i 0 < ((k + q : Nat) : Int)) := fun i hi => by
    rw [nosK_length hkl] at hi
    rw [nosK_get hkl hi]
    exact hno i _ (by simp [List.getD, show i < l.length by omega])
  have HAL : Hid (∀ i, i < ((List.range k).map fun i : Nat => (i : Int)).length → 0 ≤ ((List.range k).map fun i : Nat => (i : Int)).getD i 0 ∧ ((List.range k).map fun i : Nat => (i : Int)).getD i 0 < (k : Int)) := fun i hi => by
    have hi2 : i < k := by simpa using hi
    rw [range_get hi2]; omega
  have HTX : Hid (∀ j, j < k → ((txtK k l).getD j []).length = n) := fun j hj => by
    rw [txtK_get hkl hj]
    exact htx j _ (by simp [List.getD, show j < l.length by omega])
  have HU := Lib.hid (used_eq hkl)
  have HLN := Lib.hid (nosK_length hkl)
  have HLT := Lib.hid (txtK_length hkl)
  obtain ⟨A, c, rfl, hlc, hcm, hx⟩ := hv
  obtain ⟨b, off, rfl, hbl, hcell⟩ := hx (by omega)
  have HC := Lib.hid hcell
  clear hx hcell hno htx
  unfold maxLen at hcm
  generalize hL : l.length = L at *
  have HL := Lib.hid hL
  clear hL
  go_enter Tryd.func60, Tryd.ntmps60
  go_wp2_with fail
  go_loopw [8, 9, 18] (fun o1 o2 i wr => ∃ j : Nat, j ≤ k ∧ i = .int .i64 j ∧ wr.ownsRow w.heap.size 3 1 o1 j (ints (nosK j l)) ∧ wr.ownsRow w.heap.size 9 1 o2 j (strs (txtK j l)) ∧ (∀ g, o1.ownBlock = some g → o2.ownBlock ≠ some g) ∧ Below w.heap.size w wr)
    (fun _ _ i _ => k - (intOf i).toNat)
  case atStart => exact ⟨0, Nat.zero_le _, rfl, World.ownsRow_nil _ _ _ _, World.ownsRow_nil _ _ _ _, (fun g h => by simp [Value.ownBlock] at h), Below.refl _ _⟩
  case round =>
    obtain ⟨j, hj, rfl, hown1, hown2, hap, hb⟩ := hrel
    have hbs := hb.size
    by_cases hlt : j < k
    · obtain ⟨⟨no, s⟩, hks⟩ := at_lt HL.out (show j < L by omega)
      have hc1 := (hb.cell (p := ⟨b, off + j * 2, none⟩) hbl).trans (HC.out j _ hks).1
      have hc2 := (hb.cell (p := ⟨b, off + j * 2 + 1, none⟩) hbl).trans (HC.out j _ hks).2
      simp only at hc1 hc2
      have hji : (j : Int) < (k : Int) := by omega
      have hjL : j < k := hlt
      have HN1 := Lib.hid (nosK_succ hks)
      have HT1 := Lib.hid (txtK_succ hks)
      clear hks
      have hlt1 := fun g e => (hown1.lt g e).2
      have hlt2 := fun g e => (hown2.lt g e).2
      go_wp2_with (at_builtin; refine wpList_append1 rfl _ _ _ rfl w.heap.size 3 _ _ Tryd.underlying71 infoInt rfl _ j _ rfl ((hown1.alloc _).alloc _) (wr.heap.size + 1) (.int .i64 no) rfl ?c1 rfl ?c2 ?c3 ?c4 ?_)
      case c2 => omega
      case c4 => first | omega | (simp; omega)
      intro v1 w1 hown1' hg1 hor1
      have hsz1 := hg1.size
      have hbox : w1.cell? ⟨wr.heap.size, 1, none⟩ = some (.string (str s)) := hg1.cell (by simp) (fun e => Nat.lt_irrefl _ (hlt1 wr.heap.size e.symm))
      have hown2' := own_other ((hown2.alloc (.cells #[.int .i64 no, .string (str s)] 27)).alloc (.cells #[.int .i64 no] 3)) hg1 (fun g e e2 => hap g e2 e)
      have hb1 : Below w.heap.size w w1 := below_append ((hb.alloc hbs _).alloc (by simp; omega) _) ((hown1.alloc _).alloc _) hg1 (Nat.le_refl _) (by simp; omega)
      simp only [World.size_alloc] at hsz1 hor1
      clear hown1 hg1 hc1 hc2
      go_wp2_with (at_builtin; refine wpList_append1 rfl _ _ _ rfl w.heap.size 9 _ _ Tryd.underlying35 infoStr rfl _ j _ rfl (hown2'.alloc _) w1.heap.size (.string (str s)) rfl ?d1 rfl ?d2 ?d3 ?d4 ?_)
      case d1 => simp
      case d2 => omega
      case d3 => omega
      case d4 => first | omega | (simp; omega)
      intro v2 w2 hown2'' hg2 hor2
      have hapa : ∀ g, v1.ownBlock = some g → u9.ownBlock ≠ some g := fun g e e2 => by
        rcases hor1 with h | h
        · exact hap g (h ▸ e) e2
        · rw [h] at e; cases e; have := hlt2 _ e2; omega
      have hown1'' := own_other (hown1'.alloc (.cells #[.string (str s)] 9)) hg2 (fun g e e2 => hapa g e e2)
      have hap' : ∀ g, v1.ownBlock = some g → v2.ownBlock ≠ some g := fun g e e2 => by
        rcases hor2 with h | h
        · exact hapa g e (h ▸ e2)
        · rw [h] at e2; have := (hown1'.lt _ e).2; simp at e2; omega
      have hb2 : Below w.heap.size w w2 := below_append (hb1.alloc (by omega) _) (hown2'.alloc _) hg2 (Nat.le_refl _) (by simp; omega)
      have hn1 : w2.ownsRow w.heap.size 3 1 v1 (j + 1) (ints (nosK (j + 1) l)) := by rw [HN1.out, ints_append]; exact hown1''
      have hn2 : w2.ownsRow w.heap.size 9 1 v2 (j + 1) (strs (txtK (j + 1) l)) := by rw [HT1.out, strs_append]; exact hown2''
      clear hown1'' hown2'' hown1' hown2' hg2 hor1 hor2 hapa hbox
      go_wp2_with fail
      go_roundw
      case rel => exact ⟨j + 1, by omega, by go_num, hn1, hn2, hap', hb2⟩
      case measure => simp [intOf]; omega
    · obtain rfl : j = k := by omega
      have hji : ¬ (j : Int) < (j : Int) := by omega
      have HS1 := Lib.hid (Seen.of_own hown1)
      have HS2 := Lib.hid (Seen.of_own hown2)
      clear hown1 hown2 hap
      go_wp2_with fail
      refine (l3Matrix_own j q _ (by omega) (by omega) (by omega) (by omega)).mono ?_
      rintro e w1 ⟨v1, vs1, rfl, hM1, k1⟩
      have hs1 := k1.size
      have HM1 := Lib.hid hM1
      clear hM1
      go_wp2_with fail
      refine (l3All_own j _ (by omega)).mono ?_
      rintro e w2 ⟨v2, rfl, hO2, k2⟩
      have hs2 := k2.size
      have HO2 := Lib.hid hO2
      clear hO2
      go_wp2_with fail
      refine (l2Part_own (j + q) j (codF j) (nosK j l) ((List.range j).map fun i : Nat => (i : Int)) _ _ _ _ (HM1.out.seen.touch k2) ((HS1.out.below k1.to_below).below k2.to_below) HO2.out.seen HNO.out HAL.out (by rw [HLN.out]; omega) (by simp; omega)).mono ?_
      rw [HU.out]
      rintro e w3 ⟨v3, vs3, rfl, hM3, k3⟩
      have hs3 := k3.size
      have HM3 := Lib.hid hM3
      clear hM3
      go_wp2_with fail
      refine (l2Inverse_own j (usedF j l) _ _ HM3.out.seen (by omega) (by omega)).mono ?_
      rintro e w4 ⟨v4, vs4, rfl, hM4, k4⟩
      have hs4 := k4.size
      obtain ⟨A4, c4, rfl, hlc4, hcm4⟩ := hM4.seen.len
      rw [mkM_length] at *
      unfold maxLen at hcm4
      have HM4 := Lib.hid hM4
      clear hM4
      have HB4 : Hid (Below w.heap.size w w4) := k4.base (k3.base (k2.base (k1.base hb (by omega) (by omega)) (by omega) (by omega)) (by omega) (by omega)) (by omega) (by omega)
      have HS4 : Hid (Seen w4 _ (strs (txtK j l))) := (((HS2.out.below k1.to_below).below k2.to_below).below k3.to_below).below k4.to_below
      have kA : TurnIn 0 0 w4 (w4.alloc (.cells #[.slice A4 j c4] 67)) := turn_alloc _ _
      by_cases hok : usedOk j l = true
      · have HY := Lib.hid (decY_yes (n := n) hok)
        have hok2 : decide ((est (usedF j l) j j).2 = j) = true := hok
        have HK := Lib.hid hok
        rw [hok2]
        clear hok hok2
        go_wp2_with fail
        refine (l3Rows_own j j n (bst (usedF j l) idF j j) (txtK j l) _ _ _ (HM4.out.seen.touch kA) (HS4.out.below kA.to_below) HLT.out (by omega) (by omega) (by omega) HTX.out (by omega)).mono ?_
        rintro e w5 ⟨v5, rfl, hO5, k5⟩
        go_wp2_with fail
        go_ret2
        refine ⟨_, by rw [HK.out]; rfl, ?_, ?_⟩
        · rw [HY.out, decX]
          exact ⟨own_base hO5.1 (by have := HB4.out.size; simp; omega), hO5.2⟩
        · exact TurnIn.of_below (k5.base (kA.base HB4.out (by have := HB4.out.size; omega) (by omega)) (by have := HB4.out.size; simp; omega) (by omega))
      · have hok1 : usedOk j l = false := by simpa using hok
        have hok2 : decide ((est (usedF j l) j j).2 = j) = false := hok1
        have HY := Lib.hid (decY_no (n := n) hok1)
        have HK := Lib.hid hok1
        rw [hok2]
        clear hok hok1 hok2
        go_wp2_with fail
        go_ret2
        refine ⟨.slice none 0 0, by rw [HK.out]; rfl, by rw [HY.out]; exact OwnStrs.nil _ _ _, TurnIn.of_below (kA.base HB4.out (by have := HB4.out.size; omega) (by omega))⟩

end Go.Proofs.YtbfchebnooanjaaDoor

/- SolveDrops, the model's. -/
namespace G294
open Go Go.RowKit
theorem ent_mk2 {r c : Nat} {F : Ents} : mkM r c (ent (mkM r c F)) = mkM r c F := mkM_congr fun i j hi hj => ent_mkM _ _ _ _ _ hi hj
theorem txN_le {l : List Sh} (h : dropsOk l = true) : txN l ≤ 40 := by
  cases l with
  | nil => simp [txN]
  | cons a t => exact ((dropsOk_len h).2 _ (by simp)).2.2.2
end G294
namespace Go.Proofs.YtbfchebnooanjaaDoor
open Go.RowKit G294

attribute [local irreducible] drF

set_option maxRecDepth 100000 in
set_option maxHeartbeats 2000000 in
theorem sSolveDrops_own (v : Value) (l : List Sh) (b : Int) (w : World) (hv : SeenH w v l) :
    Calls Tryd.prog 17 #[v, .int .i64 b] w (RetStrsOk 9 w (slvR l b) (slvOk l b)) := by
  have HV := Lib.hid hv
  have HGD := Lib.hid (fun W (h : SeenH W v l) => l9Drops_any v l W h)
  have HIN : Hid (inB b 1 12 = bcOk b) := by show _ = _; unfold inB bcOk; rfl
  have HGB := Lib.hid (fun W => l1In_any b 1 12 W)
  rw [HIN.out] at HGB
  unfold RetBool at HGD
  obtain ⟨AV, cV, hvv⟩ := hv.len
  by_cases h1 : dropsOk l = true
  · by_cases h2 : bcOk b = true
    · obtain ⟨q, rfl, hq1, hq2⟩ := bcOk_q h2
      have HFS := Lib.hid (fun W (h : SeenH W v l) => l9First_own v l q W h h1 hq1 hq2)
      unfold RetFst at HFS
      have hlen : (indD l q).length ≤ q := (indU_rank l q hq1 hq2 l.length (Nat.le_refl _)).1
      have HSO : Hid (slvOk l (q : Int) = decide ((indD l q).length = q)) := by show _ = _; simp [slvOk, h1, h2]
      have HMK : Hid ((indD l q).length = q → usedM (slvM l q) (indD l q) = mkM q q (ent (usedM (slvM l q) (indD l q)))) := fun e => by
        have := usedM_mk (b := q) (indU_in l q l.length (Nat.le_refl _))
        rw [← indD_eq, e] at this
        rw [this, ent_mk2]
      have HRR : Hid ((indD l q).length = q → slvR l (q : Int) = rowsT q q (txN l) (bst (ent (usedM (slvM l q) (indD l q))) idF q q) ((indD l q).map (·.2))) := fun e => by
        have ho : slvOk l (q : Int) = true := by rw [HSO.out]; simp [e]
        have hd : dbOk (slvM l q) (indD l q) = true := by rw [indD_ok hq1 hq2]; simp [e]
        rw [slvR_yes ho, dbR_yes hd, invF, usedM_length, e]
      have HNO : Hid ((indD l q).length ≠ q → slvOk l (q : Int) = false ∧ slvR l (q : Int) = []) := fun e => by
        have ho : slvOk l (q : Int) = false := by rw [HSO.out]; simp [e]
        exact ⟨ho, slvR_no ho⟩
      have HTX : Hid (∀ j, j < (indD l q).length → (((indD l q).map (·.2)).getD j []).length = txN l) := fun j hj => by
        have e : ((indD l q).map (·.2)).getD j [] = (indD l q)[j].2 := by simp [List.getD, hj]
        rw [e]; exact (indD_txt h1 _ (List.getElem_mem hj)).1
      have htn := txN_le h1
      have HTL : Hid (((indD l q).map (·.2)).length = (indD l q).length) := by show _ = _; simp
      have HUL : Hid ((usedM (slvM l q) (indD l q)).length = (indD l q).length) := usedM_length _ _
      rw [h1] at HGD
      rw [h2] at HGB
      clear hv h1 h2 HIN
      subst hvv
      generalize usedM (slvM l q) (indD l q) = M at *
      generalize (indD l q).map (·.2) = T at *
      generalize (indD l q).length = z at *
      generalize txN l = tn at *
      go_enter Tryd.func17, Tryd.ntmps17
      go_wp2_with fail
      refine (HGD.out _ HV.out).mono ?_
      rintro e w1 ⟨rfl, k1⟩
      have HK1 := Lib.hid k1
      clear k1
      go_wp2_with fail
      refine (HGB.out _).mono ?_
      rintro e w' ⟨rfl, rfl⟩
      go_wp2_with fail
      refine (HFS.out _ (HV.out.below HK1.out.to_below)).mono ?_
      rintro e w2 ⟨vm, vs, vd, rfl, hM, hT, k2⟩
      obtain ⟨A2, c2, rfl⟩ := own_sliceN hM.row
      rw [HUL.out] at *
      have kA := turn_alloc w2 (.cells #[.slice A2 z c2] 67)
      have c10 := alloc_cell w2 (.slice A2 z c2) 67
      have HM := Lib.hid (hM.seen.touch kA)
      have HT := Lib.hid (hT.below kA.to_below)
      have HK2 := Lib.hid (turn_trans (turn_trans HK1.out k2 (by omega)) kA (by omega))
      clear hM hT k2 kA
      by_cases hz : z = q
      · subst hz
        have hzz : ¬ ((z : Nat) : Int) < (z : Int) := by omega
        have HR := Lib.hid (HRR.out rfl)
        have HO : Hid (slvOk l (z : Int) = true) := by show _ = _; rw [HSO.out]; simp
        have HME := Lib.hid (HMK.out rfl)
        go_wp2_with fail
        refine (l2Inverse_own z (ent M) _ _ (HME.out ▸ HM.out) (by omega) (by omega)).mono ?_
        rintro e w4 ⟨v4, vs4, rfl, hM4, k4⟩
        obtain ⟨A4, c4, rfl⟩ := own_sliceN hM4.row
        rw [mkM_length] at *
        have kB := turn_alloc w4 (.cells #[.slice A4 z c4] 67)
        have HM4 := Lib.hid (hM4.seen.touch kB)
        have HT4 := Lib.hid ((HT.out.below k4.to_below).below kB.to_below)
        have HK4 := Lib.hid (turn_trans (turn_trans HK2.out k4 (by omega)) kB (by omega))
        have s4 := HK4.out.size
        clear hM4 k4 kB
        go_wp2_with fail
        refine (l3Rows_own z z tn (bst (ent M) idF z z) T _ _ _ HM4.out HT4.out HTL.out (by omega) (by omega) (by omega) HTX.out (by omega)).mono ?_
        rintro e w5 ⟨v5, rfl, hO5, k5⟩
        have HO5 := Lib.hid hO5
        have HK5 := Lib.hid (turn_trans HK4.out k5 (by omega))
        clear hO5 k5
        go_wp2_with fail
        go_ret2
        refine ⟨v5, by rw [HO.out]; rfl, ?_, HK5.out⟩
        rw [HR.out]
        exact ⟨own_base HO5.out.1 s4, HO5.out.2⟩
      · have hzz : ((z : Nat) : Int) < (q : Int) := by omega
        have HN := Lib.hid (HNO.out hz)
        go_wp2_with fail
        go_ret2
        refine ⟨.slice none 0 0, by rw [HN.out.1]; rfl, ?_, HK2.out⟩
        rw [HN.out.2]
        exact OwnStrs.nil _ _ _
    · have h2' : bcOk b = false := by simpa using h2
      have HOK : Hid (slvOk l b = false) := by show _ = _; simp [slvOk, h2']
      have HR := Lib.hid (slvR_no HOK.out)
      rw [HOK.out, HR.out]
      rw [h1] at HGD
      rw [h2'] at HGB
      clear hv h1 h2 h2' HIN
      subst hvv
      go_enter Tryd.func17, Tryd.ntmps17
      go_wp2_with fail
      refine (HGD.out _ HV.out).mono ?_
      rintro e w1 ⟨rfl, k1⟩
      have HK1 := Lib.hid k1
      clear k1
      go_wp2_with fail
      refine (HGB.out _).mono ?_
      rintro e w' ⟨rfl, rfl⟩
      go_wp2_with fail
      go_ret2
      exact ⟨.slice none 0 0, rfl, OwnStrs.nil _ _ _, HK1.out⟩
  · have h1' : dropsOk l = false := by simpa using h1
    have HOK : Hid (slvOk l b = false) := by show _ = _; simp [slvOk, h1']
    have HR := Lib.hid (slvR_no HOK.out)
    rw [HOK.out, HR.out]
    rw [h1'] at HGD
    clear hv h1 h1'
    subst hvv
    go_enter Tryd.func17, Tryd.ntmps17
    go_wp2_with fail
    refine (HGD.out _ HV.out).mono ?_
    rintro e w1 ⟨rfl, k1⟩
    have HK1 := Lib.hid k1
    clear k1
    go_wp2_with fail
    go_ret2
    exact ⟨.slice none 0 0, rfl, OwnStrs.nil _ _ _, HK1.out⟩

end Go.Proofs.YtbfchebnooanjaaDoor

/- The table of remainders, out of what a row lays. -/
namespace Go.Proofs.YtbfchebnooanjaaDoor
open Go.ChangeShapes Go.WideShapes Go.ChangeAt Go.RowKit

theorem byte_of_wf {x : Int} (h : (Lit.int .u8 x).wf = true) : ∃ n : Nat, n < 256 ∧ x = n := by
  have hb := bounds_u8 h
  exact ⟨x.toNat, by omega, by omega⟩
theorem tab_of {laid : List (String × DataW Unit)} {W : World} (hpl : (laid.all fun x => x.2.handleName?.isNone) = true) (h : laidMetH Tryd.prog laid W) (i : Nat) {name : String}
    (hi : laid[i]? = some (name, Lib.tabData .u8 [27, 54, 108, 216, 171, 77, 154])) (hg : Tryd.prog.globalNamed name = some 0) : Tab W ∧ 0 < W.heap.size := by
  obtain ⟨hc, hs⟩ := G294.tab_of_laid hpl h i (g := 0) (t := 155) (e := 5) (n := 7) hi hg (by kernel_rfl) Tryd.underlying155 Tryd.underlying5 (by kernel_rfl) (by kernel_rfl)
  refine ⟨fun k hk => ?_, hs⟩
  have := hc k (by simpa using hk)
  rw [this]
  have : k = 0 ∨ k = 1 ∨ k = 2 ∨ k = 3 ∨ k = 4 ∨ k = 5 ∨ k = 6 := by omega
  rcases this with rfl | rfl | rfl | rfl | rfl | rfl | rfl <;> rfl

end Go.Proofs.YtbfchebnooanjaaDoor
