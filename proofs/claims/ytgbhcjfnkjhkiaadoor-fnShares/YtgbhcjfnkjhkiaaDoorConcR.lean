/- slices.Concat of two lists of shares, and the program's RandomFor. -/
import Derived.Test.YtgbhcjfnkjhkiaaDoorArr3
import Derived.Test.YtgbhcjfnkjhkiaaDoorGoodShr
import Derived.Test.YtgbhcjfnkjhkiaaDoorShrWalks
import Derived.Test.YtgbhcjfnkjhkiaaDoorShrApp
import Derived.Lib.AppendZeros
set_option linter.unusedSimpArgs false
set_option linter.unusedVariables false
namespace G294
open Go Go.RowKit
theorem OwnSr.nilOk {w : World} {F : TypeId} {lo hi : Nat} {v : Value} {l : List Sr} (h : OwnSr F w lo hi v l) : NilOk v := fun c e => by
  rcases h.1.2 with ⟨rfl, _⟩ | ⟨g, cap, cur, rfl, _⟩
  · simp only [Value.slice.injEq] at e; omega
  · simp at e
theorem SeenR.flat {w : World} {A : Option Addr} {n c : Nat} {l : List Sr} (h : SeenR w (.slice A n c) l) (hp : 0 < l.length) : ∃ b off, A = some ⟨b, off, none⟩ ∧ b < w.heap.size ∧ ∀ j u, (srs l)[j]? = some u → w.cell? ((⟨b, off, none⟩ : Addr).add j) = some u := by
  obtain ⟨A', c', e, _, _, h3⟩ := h
  simp only [Value.slice.injEq] at e
  obtain ⟨rfl, _, _⟩ := e
  obtain ⟨b, off, rfl, hb, hc⟩ := h3 hp
  refine ⟨b, off, rfl, hb, fun j u hu => ?_⟩
  have hj : j < l.length * 2 := by have := (List.getElem?_eq_some_iff.1 hu).1; simpa using this
  rw [Addr.add_lit]
  obtain ⟨i, rfl | rfl⟩ : ∃ i, j = i * 2 ∨ j = i * 2 + 1 := ⟨j / 2, by omega⟩
  · have hi : i < l.length := by omega
    rw [srs_no l i hi] at hu
    rw [← hu]
    exact (hc i _ (List.getElem?_eq_getElem hi)).1
  · have hi : i < l.length := by omega
    rw [srs_data l i hi] at hu
    rw [← hu, ← Nat.add_assoc]
    exact (hc i _ (List.getElem?_eq_getElem hi)).2
theorem srs_oneR (l : List Sr) : ∀ u ∈ srs l, u.oneCell' = true := srs_oneC l
section
variable {P : Program} {w : World} {ops : Array Oper} {rest : List Oper} {o : Oper} {a : Act} {K : Act → World → Prop} {Q : Exit → Act → World → Prop} {E : Prop}
/-- append(s, shares...) -/
theorem wpList_appendRs (hgd : o.guard = none) (s x : Operand) (t : TypeId) (ho : o.op = .call { callee := .builtin .append, args := #[s, x], argTypes := #[t, t] })
    (base : Nat) (e : TypeId) (z : Value) (bytes : Nat) (ht : P.underlying t = some (.slice e)) (hinfo : (P.info? e).map (fun i => (i.zero, i.size, i.bytes)) = some (some z, 2, bytes)) (hzs : z.cells.size = 2) (hby : bytes ≤ 1000)
    (v : Value) (n : Nat) (l m : List Sr) (hs : a.eval s = v) (hown : w.ownsRow base e 2 v n (srs l)) (u : Value) (hx : a.eval x = u) (hu : SeenR w u m) (hN : NilOk u)
    (hn : n + m.length ≤ 1000000000) (hbase : base ≤ w.heap.size)
    (h : ∀ v' w', w'.ownsRow base e 2 v' (n + m.length) (srs (l ++ m)) → w.grownBy w' v.ownBlock → wpList P ops Q rest (a.put o.dst v') w') :
    wpList P ops Q (o :: rest) a w := by
  obtain ⟨i, hi, hz, hsz, hbs⟩ := info_parts hinfo
  have hu0 := hu
  obtain ⟨A, c, rfl, hlc, hcm, hc⟩ := hu
  cases A with
  | none =>
    have hm0 : m.length = 0 := by
      rcases Nat.eq_zero_or_pos m.length with h' | h'
      · exact h'
      · obtain ⟨b, off, e', _⟩ := hc h'; simp at e'
    have hc0 := hN c (by rw [hm0])
    have hm : m = [] := List.eq_nil_of_length_eq_zero hm0
    subst hm hc0
    refine wpList_append_own_none hgd s x t ho base e i 2 ht hi v n (srs l) hs hown hx (h v w (by simpa using hown) (World.grownBy.refl _ _))
  | some ad =>
    refine wpList_append_own_at w hgd s x t ho base e i _ 2 bytes ht hi hz hsz hbs hzs (by omega) v n (srs l) hs hown ad m.length c (srs m) hx (by simp) (fun j y hj => ?_) (srs_oneR m) (by unfold maxLen; omega) (by
      have : (n + m.length) * bytes ≤ 1000000000 * 1000 := Nat.mul_le_mul hn hby
      omega) hbase (fun v' w' h2 h3 _ h5 => h v' w' (by rw [srs_append]; exact h2) h3)
    have hj' : 0 < m.length := by have := (List.getElem?_eq_some_iff.1 hj).1; simp at this; omega
    obtain ⟨b, off, e', _, hcc⟩ := hu0.flat hj'
    simp only [Option.some.injEq] at e'
    subst e'
    exact hcc j y hj
end
end G294
namespace Go.Proofs.YtgbhcjfnkjhkiaaDoor
open Go.RowKit G294

set_option maxRecDepth 100000 in
set_option maxHeartbeats 2000000 in
theorem growR_own (n : Nat) (w : World) (h1 : 1 ≤ n) (h2 : n ≤ 100000) : Calls Tryd.prog 150 #[.slice none 0 0, .int .i64 n] w (RetSrs 59 w []) := by
  obtain ⟨i0, hi, hz0, hz1, hz2⟩ := info_parts infoShare
  have hap := Lib.run_append_nil_zeros (P := Tryd.prog) w 53 3 53 59 i0 (.agg #[.int .u8 0, .int .u8 0]) .i64 .i64 Tryd.underlying53 Tryd.underlying3 hi hz0 n (by omega) (by omega) (by omega) (by rw [hz2]; omega)
  have hcg := grownCap_ge w n 0 59
  have hcm := grownCap_le_maxLen w n 0 59 (by unfold maxLen; omega)
  generalize grownCap w n 0 59 = cp at *
  have hcsz : (Builtin.zeroCells (Value.agg #[.int .u8 0, .int .u8 0]).cells n ++ Builtin.zeroCells (Value.agg #[.int .u8 0, .int .u8 0]).cells (cp - n)).size = cp * 2 := by
    simp [Builtin.zeroCells, Value.cells]; omega
  generalize (Builtin.zeroCells (Value.agg #[.int .u8 0, .int .u8 0]).cells n ++ Builtin.zeroCells (Value.agg #[.int .u8 0, .int .u8 0]).cells (cp - n)) = cur at *
  have HCS := Lib.hid hcsz
  have HCM := Lib.hid hcm
  clear hcsz
  unfold maxLen at hcm
  have hn0 : ¬ (n : Int) < 0 := by omega
  have hn1 : (0 : Int) < (n : Int) := by omega
  go_enter Tryd.func150, Tryd.ntmps150
  go_wp2_with (at_builtin; refine Lib.wpList_append_run _ rfl _ _ _ _ rfl _ _ rfl rfl _ _ hap ?_)
  go_wp2_with fail
  go_ret
  refine ⟨_, rfl, OwnSr.of_made ?_, TurnIn.of_below ?_⟩
  · refine ⟨by simp [srs], .inr ⟨w.heap.size, cp, cur, rfl, Nat.le_refl _, by first | exact heap_alloc_new w.drew _ | exact heap_alloc_new w _, Nat.zero_le _, HCM.out, HCS.out, by simp [srs]⟩⟩
  · exact (Below.refl _ _).drew.alloc (Nat.le_refl _) _

set_option maxRecDepth 100000 in
set_option maxHeartbeats 4000000 in
theorem concatR_own (va vb : Value) (L M : List Sr) (B : Nat) (w : World) (hB : B < w.heap.size) (c0 : w.cell? ⟨B, 0, none⟩ = some va) (c1 : w.cell? ⟨B, 1, none⟩ = some vb) (ha : SeenR w va L) (hb' : SeenR w vb M) (hNa : NilOk va) (hNb : NilOk vb)
    (hl1 : 1 ≤ L.length) (hl2 : L.length ≤ 1000) (hm2 : M.length ≤ 1000) :
    Calls Tryd.prog 122 #[.slice (some ⟨B, 0, none⟩) 2 2] w (RetSrs 59 w (L ++ M)) := by
  have HSA := Lib.hid ha
  have HSB := Lib.hid hb'
  obtain ⟨A, c, rfl, hlc, hcm, _⟩ := ha
  obtain ⟨A', c', rfl, hlc', hcm', _⟩ := hb'
  unfold maxLen at hcm hcm'
  have HNA := Lib.hid hNa
  have HNB := Lib.hid hNb
  generalize hnn : L.length = n at *
  generalize hmm : M.length = m at *
  have HNM : Hid ((L ++ M).length = n + m) := by show (L ++ M).length = n + m; simp [hnn, hmm]
  have HN := Lib.hid hnn
  have HM := Lib.hid hmm
  clear hnn hmm hNa hNb
  have hs1 : IntKind.i64.wrap ((n : Int) + (m : Int)) = ((n + m : Nat) : Int) := by rw [IntWalk.i64_in _ (by omega)]; omega
  have hs0 : IntKind.i64.wrap (0 + (n : Int)) = (n : Int) := by rw [IntWalk.i64_in _ (by omega)]; omega
  have hp0 : ¬ (n : Int) < 0 := by omega
  have hp1 : ¬ ((n + m : Nat) : Int) < 0 := by omega
  obtain ⟨s, hs⟩ : ∃ s, s = n + m := ⟨_, rfl⟩
  rw [← hs] at hs1 hp1
  have HS := Lib.hid hs
  clear hs
  go_enter Tryd.func122, Tryd.ntmps122
  go_wp2_with fail
  go_loop [3, 11] (fun z i => (i = .int .i64 0 ∧ z = .int .i64 0) ∨ (i = .int .i64 1 ∧ z = .int .i64 n) ∨ (i = .int .i64 2 ∧ z = .int .i64 s)) (fun _ i => 2 - (intOf i).toNat)
  case atStart => exact .inl ⟨rfl, rfl⟩
  case round =>
    rcases hrel with ⟨rfl, rfl⟩ | ⟨rfl, rfl⟩ | ⟨rfl, rfl⟩
    · go_wp2_with fail
      go_round
      case rel => exact .inr (.inl ⟨by go_num, by first | rfl | go_num⟩)
      case measure => simp [intOf]
    · go_wp2_with fail
      go_round
      case rel => exact .inr (.inr ⟨by go_num, by first | rfl | go_num⟩)
      case measure => simp [intOf]
    · go_wp2_with fail
      refine (growR_own s _ (by rw [HS.out]; omega) (by rw [HS.out]; omega)).mono ?_
      rintro e w1 ⟨v1, rfl, ho1, k1⟩
      have HO1 := Lib.hid ho1.1
      have hb1 := k1.to_below
      clear ho1 k1
      go_wp2_with fail
      go_loopw [6, 27] (fun o i wr => ((i = .int .i64 0 ∧ wr.ownsRow w.heap.size 59 2 o 0 (srs [])) ∨ (i = .int .i64 1 ∧ wr.ownsRow w.heap.size 59 2 o n (srs L)) ∨ (i = .int .i64 2 ∧ wr.ownsRow w.heap.size 59 2 o (n + m) (srs (L ++ M)))) ∧ Below w.heap.size w wr) (fun _ i _ => 2 - (intOf i).toNat)
      case atStart => exact ⟨.inl ⟨rfl, HO1.out⟩, hb1⟩
      case round =>
        obtain ⟨hd, hb⟩ := hrel
        clear hb1 HO1
        have d0 := (hb.cell (p := ⟨B, 0, none⟩) hB).trans c0
        have d1 := (hb.cell (p := ⟨B, 1, none⟩) hB).trans c1
        rcases hd with ⟨rfl, hown⟩ | ⟨rfl, hown⟩ | ⟨rfl, hown⟩
        · have HOW := Lib.hid hown
          have hsz := hb.size
          have HOB : Hid (∀ g, u6.ownBlock = some g → w.heap.size ≤ g) := fun g e => (hown.lt g e).1
          clear hown
          go_wp2_with (at_builtin; refine wpList_appendRs rfl _ _ _ rfl w.heap.size 59 _ _ Tryd.underlying53 infoShare rfl (by omega) _ 0 [] L rfl HOW.out _ rfl (HSA.out.below hb) HNA.out ?c1 ?c3 ?_)
          case c1 => rw [HN.out]; omega
          case c3 => exact hsz
          intro v2 w2 ho2 hg2
          have hb2 : Below w.heap.size w w2 := hb.grown hg2 hsz (fun g e => HOB.out g e)
          have HO2 : Hid (w2.ownsRow w.heap.size 59 2 v2 n (srs L)) := Lib.hid (by rw [HN.out] at ho2; simpa using ho2)
          clear ho2 hg2
          go_wp2_with fail
          go_roundw
          case rel => exact ⟨.inr (.inl ⟨by go_num, HO2.out⟩), hb2⟩
          case measure => simp [intOf]
        · have HOW := Lib.hid hown
          have hsz := hb.size
          have HOB : Hid (∀ g, u6.ownBlock = some g → w.heap.size ≤ g) := fun g e => (hown.lt g e).1
          clear hown
          go_wp2_with (at_builtin; refine wpList_appendRs rfl _ _ _ rfl w.heap.size 59 _ _ Tryd.underlying53 infoShare rfl (by omega) _ n L M rfl HOW.out _ rfl (HSB.out.below hb) HNB.out ?c1 ?c3 ?_)
          case c1 => rw [HM.out]; omega
          case c3 => exact hsz
          intro v2 w2 ho2 hg2
          have hb2 : Below w.heap.size w w2 := hb.grown hg2 hsz (fun g e => HOB.out g e)
          rw [HM.out] at ho2
          have HO2 := Lib.hid ho2
          clear ho2 hg2
          go_wp2_with fail
          go_roundw
          case rel => exact ⟨.inr (.inr ⟨by go_num, HO2.out⟩), hb2⟩
          case measure => simp [intOf]
        · have HOW := Lib.hid hown
          clear hown
          go_wp2_with fail
          go_ret
          refine ⟨_, rfl, OwnSr.of_made ?_, TurnIn.of_below hb⟩
          rw [HNM.out]; exact HOW.out

end Go.Proofs.YtgbhcjfnkjhkiaaDoor
