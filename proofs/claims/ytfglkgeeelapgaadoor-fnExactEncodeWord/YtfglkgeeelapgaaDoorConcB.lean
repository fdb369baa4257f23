/- Chapter 8: slices.Concat of two lists of bytes; slices.Reverse of bytes. -/
import Derived.Test.YtfglkgeeelapgaaDoorCodeM
import Derived.Test.YtfglkgeeelapgaaDoorBytesOwn
import Derived.Test.YtfglkgeeelapgaaDoorMatMem
import Derived.Lib.AppendZeros
import Derived.Lib.Hide
set_option linter.unusedSimpArgs false
set_option linter.unusedVariables false
namespace Go.Proofs.YtfglkgeeelapgaaDoor
open Go.RowKit G294

set_option maxRecDepth 100000 in
set_option maxHeartbeats 2000000 in
theorem growB_own (n : Nat) (w : World) (h1 : 1 ≤ n) (h2 : n ≤ 100000) : Calls Tryd.prog 122 #[.slice none 0 0, .int .i64 n] w (RetBytes 5 w []) := by
  obtain ⟨i0, hi, hz0, hz1, hz2⟩ := info_parts infoByte
  have hap := Lib.run_append_nil_zeros (P := Tryd.prog) w 22 3 22 5 i0 (.int .u8 0) .i64 .i64 Tryd.underlying22 Tryd.underlying3 hi hz0 n (by omega) (by omega) (by omega) (by rw [hz2]; omega)
  have hcg := grownCap_ge w n 0 5
  have hcm := grownCap_le_maxLen w n 0 5 (by unfold maxLen; omega)
  generalize grownCap w n 0 5 = cp at *
  have hcsz : (Builtin.zeroCells (Value.int .u8 0).cells n ++ Builtin.zeroCells (Value.int .u8 0).cells (cp - n)).size = cp := by
    simp [Builtin.zeroCells, Value.cells]; omega
  generalize (Builtin.zeroCells (Value.int .u8 0).cells n ++ Builtin.zeroCells (Value.int .u8 0).cells (cp - n)) = cur at *
  have HCS := Lib.hid hcsz
  have HCM := Lib.hid hcm
  clear hcsz
  unfold maxLen at hcm
  have hn0 : ¬ (n : Int) < 0 := by omega
  have hn1 : (0 : Int) < (n : Int) := by omega
  go_enter Tryd.func122, Tryd.ntmps122
  go_wp2_with (at_builtin; refine Lib.wpList_append_run _ rfl _ _ _ _ rfl _ _ rfl rfl _ _ hap ?_)
  go_wp2_with fail
  go_ret
  refine ⟨_, rfl, OwnBytes.of_made ?_, TurnIn.of_below ?_⟩
  · refine ⟨by simp [bys], .inr ⟨w.heap.size, cp, cur, rfl, Nat.le_refl _, by first | exact heap_alloc_new w.drew _ | exact heap_alloc_new w _, Nat.zero_le _, HCM.out, by rw [HCS.out]; omega, by simp [bys]⟩⟩
  · exact (Below.refl _ _).drew.alloc (Nat.le_refl _) _

set_option maxRecDepth 100000 in
set_option maxHeartbeats 4000000 in
theorem concatB_own (va vb : Value) (L M : List UInt8) (B : Nat) (w : World) (hB : B < w.heap.size) (c0 : w.cell? ⟨B, 0, none⟩ = some va) (c1 : w.cell? ⟨B, 1, none⟩ = some vb) (ha : Seen w va (bys L)) (hb' : Seen w vb (bys M))
    (hl1 : 1 ≤ L.length) (hl2 : L.length ≤ 1000) (hm1 : 1 ≤ M.length) (hm2 : M.length ≤ 1000) :
    Calls Tryd.prog 92 #[.slice (some ⟨B, 0, none⟩) 2 2] w (RetBytes 5 w (L ++ M)) := by
  obtain ⟨A, c, rfl, hlc, hcm, hx⟩ := ha
  obtain ⟨A', c', rfl, hlc', hcm', hx'⟩ := hb'
  rw [bys_length] at hlc hx hlc' hx' c0 c1
  unfold maxLen at hcm hcm'
  obtain ⟨b, off, rfl, hbl, hcell⟩ := hx (by omega)
  obtain ⟨b', off', rfl, hbl', hcell'⟩ := hx' (by omega)
  have HC0 := Lib.hid hcell
  have HC1 := Lib.hid hcell'
  clear hcell hcell' hx hx'
  generalize hnn : L.length = n at *
  generalize hmm : M.length = m at *
  have HN : Hid ((bys L).length = n) := by show (bys L).length = n; simpa using hnn
  have HM : Hid ((bys M).length = m) := by show (bys M).length = m; simpa using hmm
  have HNM : Hid ((L ++ M).length = n + m) := by show (L ++ M).length = n + m; simp [hnn, hmm]
  have HA : Hid (bys (L ++ M) = bys L ++ bys M) := bys_append L M
  clear hnn hmm
  have hs1 : IntKind.i64.wrap ((n : Int) + (m : Int)) = ((n + m : Nat) : Int) := by rw [IntWalk.i64_in _ (by omega)]; omega
  have hs0 : IntKind.i64.wrap (0 + (n : Int)) = (n : Int) := by rw [IntWalk.i64_in _ (by omega)]; omega
  have hp0 : ¬ (n : Int) < 0 := by omega
  have hp1 : ¬ ((n + m : Nat) : Int) < 0 := by omega
  obtain ⟨s, hs⟩ : ∃ s, s = n + m := ⟨_, rfl⟩
  rw [← hs] at hs1 hp1
  have HS := Lib.hid hs
  clear hs
  go_enter Tryd.func92, Tryd.ntmps92
  go_wp2_with fail
  go_loop [3, 11] (fun z i => (i = .int .i64 0 ∧ z = .int .i64 0) ∨ (i = .int .i64 1 ∧ z = .int .i64 n) ∨ (i = .int .i64 2 ∧ z = .int .i64 s)) (fun _ i => 2 - (intOf i).toNat)
  case atStart => exact .inl ⟨rfl, rfl⟩
  case round =>
    rcases hrel with ⟨rfl, rfl⟩ | ⟨rfl, rfl⟩ | ⟨rfl, rfl⟩
    · go_wp2_with fail
      go_round
      case rel => exact .inr (.inl ⟨by go_num, by first | rfl | go_num⟩)
      case measure => simp [intOf]
    · go_wp2_with fail
      go_round
      case rel => exact .inr (.inr ⟨by go_num, by first | rfl | go_num⟩)
      case measure => simp [intOf]
    · go_wp2_with fail
      refine (growB_own s _ (by rw [HS.out]; omega) (by rw [HS.out]; omega)).mono ?_
      rintro e w1 ⟨v1, rfl, ho1, k1⟩
      have HO1 := Lib.hid ho1.1
      have hb1 := k1.to_below
      clear ho1 k1
      go_wp2_with fail
      go_loopw [6, 27] (fun o i wr => ((i = .int .i64 0 ∧ wr.ownsRow w.heap.size 5 1 o 0 []) ∨ (i = .int .i64 1 ∧ wr.ownsRow w.heap.size 5 1 o n (bys L)) ∨ (i = .int .i64 2 ∧ wr.ownsRow w.heap.size 5 1 o (n + m) (bys L ++ bys M))) ∧ Below w.heap.size w wr) (fun _ i _ => 2 - (intOf i).toNat)
      case atStart => exact ⟨.inl ⟨rfl, HO1.out⟩, hb1⟩
      case round =>
        obtain ⟨hd, hb⟩ := hrel
        clear hb1 HO1
        have d0 := (hb.cell (p := ⟨B, 0, none⟩) hB).trans c0
        have d1 := (hb.cell (p := ⟨B, 1, none⟩) hB).trans c1
        rcases hd with ⟨rfl, hown⟩ | ⟨rfl, hown⟩ | ⟨rfl, hown⟩
        · have hys : ∀ j y, (bys L)[j]? = some y → wr.cell? ((⟨b, off, none⟩ : Addr).add j) = some y := fun j y hj => by rw [Addr.add_lit]; exact (hb.cell (p := ⟨b, off + j, none⟩) hbl).trans (HC0.out j y hj)
          have HYS := Lib.hid hys
          have HOW := Lib.hid hown
          have hsz := hb.size
          have hob : ∀ g, u6.ownBlock = some g → w.heap.size ≤ g := fun g e => (hown.lt g e).1
          have HOB := Lib.hid hob
          clear hys hob hown
          go_wp2_with (at_builtin; refine wpList_appendN rfl _ _ _ rfl w.heap.size 5 _ _ Tryd.underlying22 infoByte rfl _ 0 [] rfl HOW.out ⟨b, off, none⟩ n c (bys L) rfl HN.out HYS.out ((fun y hy => bys_one y _ hy)) ?c1 ?c2 ?c3 ?_)
          case c1 => omega
          case c2 => omega
          case c3 => exact hsz
          intro v2 w2 ho2 hg2 hv2
          have hb2 : Below w.heap.size w w2 := hb.grown hg2 hsz (fun g e => HOB.out g e)
          have HO2 : Hid (w2.ownsRow w.heap.size 5 1 v2 n (bys L)) := Lib.hid (by simpa using ho2)
          clear ho2 hg2
          go_wp2_with fail
          go_roundw
          case rel => exact ⟨.inr (.inl ⟨by go_num, HO2.out⟩), hb2⟩
          case measure => simp [intOf]
        · have hys : ∀ j y, (bys M)[j]? = some y → wr.cell? ((⟨b', off', none⟩ : Addr).add j) = some y := fun j y hj => by rw [Addr.add_lit]; exact (hb.cell (p := ⟨b', off' + j, none⟩) hbl').trans (HC1.out j y hj)
          have HYS := Lib.hid hys
          have HOW := Lib.hid hown
          have hsz := hb.size
          have hob : ∀ g, u6.ownBlock = some g → w.heap.size ≤ g := fun g e => (hown.lt g e).1
          have HOB := Lib.hid hob
          clear hys hob hown
          go_wp2_with (at_builtin; refine wpList_appendN rfl _ _ _ rfl w.heap.size 5 _ _ Tryd.underlying22 infoByte rfl _ n (bys L) rfl HOW.out ⟨b', off', none⟩ m c' (bys M) rfl HM.out HYS.out ((fun y hy => bys_one y _ hy)) ?c1 ?c2 ?c3 ?_)
          case c1 => omega
          case c2 => omega
          case c3 => exact hsz
          intro v2 w2 ho2 hg2 hv2
          have hb2 : Below w.heap.size w w2 := hb.grown hg2 hsz (fun g e => HOB.out g e)
          have HO2 := Lib.hid ho2
          clear ho2 hg2
          go_wp2_with fail
          go_roundw
          case rel => exact ⟨.inr (.inr ⟨by go_num, HO2.out⟩), hb2⟩
          case measure => simp [intOf]
        · have HOW := Lib.hid hown
          clear hown
          go_wp2_with fail
          go_ret
          refine ⟨_, rfl, OwnBytes.of_made ?_, TurnIn.of_below hb⟩
          rw [HNM.out, HA.out]; exact HOW.out

end Go.Proofs.YtfglkgeeelapgaaDoor
