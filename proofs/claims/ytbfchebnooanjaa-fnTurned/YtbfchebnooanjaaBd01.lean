/- Joined texts: StrMem, BytIn, BytesWalks, IntsWalks, IntApp, VitMath, BwtMath. -/
import Derived.Test.YtbfchebnooanjaaBd00
import Derived.Lib.ConvBytes
import Derived.Test.YtbfchebnooanjaaProg
import Derived.Deep.QuietTactic
import Derived.BigQuiet
import Derived.Laws.AppendOwnNone
import Derived.Lib.Bytealg
set_option linter.unusedSimpArgs false
set_option linter.unusedVariables false
/- Texts in memory: a slice of strings that is seen, or of the call's own; the texts that a mark writes. -/
namespace G294
open Go Go.RowKit
theorem str_size (l : List UInt8) : (str l).size = l.length := by
  show l.toArray.size = _
  simp
theorem str_eq (s : ByteArray) : s = str s.data.toList := by cases s; rfl
theorem str_inj {a b : List UInt8} (h : str a = str b) : a = b := by
  have := congrArg ByteArray.toList h
  rwa [str_toList, str_toList] at this
theorem str_append (a b : List UInt8) : str a ++ str b = str (a ++ b) := by
  unfold str
  rw [ByteArray.mk_append_mk]
theorem str_nil : str [] = ⟨#[]⟩ := rfl
theorem str_same (s : List UInt8) : ((str s).toList == (str s).toList) = true := by simp
/-- texts as the cells of memory -/
def strs (l : List (List UInt8)) : List Value := l.map fun s => .string (str s)
@[simp] theorem strs_length (l : List (List UInt8)) : (strs l).length = l.length := by simp [strs]
theorem strs_append (l m : List (List UInt8)) : strs (l ++ m) = strs l ++ strs m := by simp [strs]
theorem strs_get (l : List (List UInt8)) (i : Nat) (h : i < l.length) : (strs l)[i]? = some (.string (str l[i])) := by simp [strs, h]
theorem strs_oneC (l : List (List UInt8)) : ∀ y, y ∈ strs l → y.oneCell' = true := by
  intro y hy
  simp only [strs, List.mem_map] at hy
  obtain ⟨x, _, rfl⟩ := hy
  rfl
/-- a row of texts of the call's own, its block from lo to hi -/
def OwnStrs (E : TypeId) (w : World) (lo hi : Nat) (v : Value) (l : List (List UInt8)) : Prop := w.ownsRow lo E 1 v l.length (strs l) ∧ hi ≤ w.heap.size ∧ ∀ g, v.ownBlock = some g → g < hi
section
variable {w w' : World} {lo hi a b : Nat} {v : Value} {l : List (List UInt8)} {E : TypeId}
theorem OwnStrs.keep (h : OwnStrs E w lo hi v l) (t : TurnIn a b w w') (d : hi ≤ a ∨ b ≤ lo) : OwnStrs E w' lo hi v l := by
  obtain ⟨h1, h2, h3⟩ := h
  have hs := t.size
  refine ⟨⟨h1.1, ?_⟩, by omega, h3⟩
  rcases h1.2 with hn | ⟨g, cap, cur, rfl, hbg, hg, rest⟩
  · exact .inl hn
  · refine .inr ⟨g, cap, cur, rfl, hbg, ?_, rest⟩
    have := h3 g rfl
    rw [t.block g (Array.getElem?_eq_some_iff.1 hg).1 (by omega)]
    exact hg
theorem OwnStrs.seen (h : OwnStrs E w lo hi v l) : Seen w v (strs l) := Seen.of_own h.1
theorem OwnStrs.nil (E : TypeId) (w : World) (lo : Nat) : OwnStrs E w lo w.heap.size (.slice none 0 0) [] := ⟨World.ownsRow_nil _ _ _ _, Nat.le_refl _, fun g h => by simp [Value.ownBlock] at h⟩
theorem OwnStrs.of_made (h : w'.ownsRow w.heap.size E 1 v l.length (strs l)) : OwnStrs E w' w.heap.size w'.heap.size v l := ⟨h, Nat.le_refl _, fun g hg => (h.lt g hg).2⟩
theorem OwnStrs.isSlice (h : OwnStrs E w lo hi v l) : ∃ A n c, v = .slice A n c := by
  rcases h.1.2 with ⟨hh, _⟩ | ⟨g, cap, cur, hh, _⟩ <;> exact ⟨_, _, _, hh⟩
theorem owns_turn0 {size n : Nat} {xs : List Value} {base : Nat} {e : TypeId} (h : w.ownsRow base e size v n xs) (t : TurnIn 0 0 w w') : w'.ownsRow base e size v n xs := own_below h t.to_below
end
def RetStrs (E : TypeId) (w : World) (l : List (List UInt8)) (e : Ending) (w' : World) : Prop := ∃ v, e = .returned v ∧ OwnStrs E w' w.heap.size w'.heap.size v l ∧ TurnIn 0 0 w w'
def RetStrsOk (E : TypeId) (w : World) (l : List (List UInt8)) (ok : Bool) (e : Ending) (w' : World) : Prop := ∃ v, e = .returned (.tuple #[v, .bool ok]) ∧ OwnStrs E w' w.heap.size w'.heap.size v l ∧ TurnIn 0 0 w w'
def RetStr (w : World) (s : List UInt8) (e : Ending) (w' : World) : Prop := e = .returned (.string (str s)) ∧ TurnIn 0 0 w w'
def RetStrOk (w : World) (s : List UInt8) (ok : Bool) (e : Ending) (w' : World) : Prop := e = .returned (.tuple #[.string (str s), .bool ok]) ∧ TurnIn 0 0 w w'
/-- what is left of a bound -/
def szV (left n : Nat) : Int := if n ≤ left then (left : Int) - n else -1
theorem szV_yes {left n : Nat} (h : n ≤ left) : szV left n = ((left - n : Nat) : Int) := by unfold szV; rw [if_pos h]; omega
theorem szV_no {left n : Nat} (h : left < n) : szV left n = -1 := by unfold szV; rw [if_neg (by omega)]
/-- the decimal digits of k, ahead of acc -/
def mdig (k : Nat) (acc : List UInt8) : List UInt8 := if h : k = 0 then acc else mdig (k / 10) (UInt8.ofNat (48 + k % 10) :: acc)
termination_by k
decreasing_by omega
def mtext (k : Nat) : List UInt8 := 109 :: mdig k []
theorem mdig_zero (acc : List UInt8) : mdig 0 acc = acc := by unfold mdig; simp
theorem mdig_pos {k : Nat} (h : 0 < k) (acc : List UInt8) : mdig k acc = mdig (k / 10) (UInt8.ofNat (48 + k % 10) :: acc) := by
  rw [mdig, dif_neg (by omega)]
/-- the texts of the marks k, k + 1, .. -/
def marksS (k n : Nat) : List (List UInt8) := (List.range n).map fun i => mtext (k + i)
@[simp] theorem marksS_length (k n : Nat) : (marksS k n).length = n := by simp [marksS]
theorem marksS_get (k n i : Nat) (h : i < n) : (strs (marksS k n))[i]? = some (.string (str (mtext (k + i)))) := by simp [strs, marksS, h]
def RetMarkS (E : TypeId) (w : World) (lo hi : Nat) (v : Value) (k n : Nat) (e : Ending) (w' : World) : Prop :=
  e = .returned (.int .i64 ((k + n : Nat) : Int)) ∧ OwnStrs E w' lo hi v (marksS k n) ∧ TurnIn lo hi w w'
end G294

/- A string's bytes in a new block, each of which may be written. -/
namespace G294
open Go Go.RowKit
/-- bytes in a block, each of which may be written -/
structure BytesIn (W : World) (B : Nat) (l : List UInt8) : Prop where
  lt : B < W.heap.size
  cell : ∀ j, j < l.length → W.cell? ⟨B, j, none⟩ = some (.int .u8 ((l.getD j 0).toNat : Int))
  free : ∀ j, j < l.length → W.frozen? ⟨B, j, none⟩ = false
theorem BytesIn.store {W : World} {B q : Nat} {l l' : List UInt8} {x : UInt8} (h : BytesIn W B l) (hq : q < l.length) (e : l.set q x = l') : BytesIn (W.setCell ⟨B, q, none⟩ (.int .u8 (x.toNat : Int))) B l' := by
  subst e
  refine ⟨by simpa using h.lt, fun j hj => ?_, fun j hj => by simpa using h.free j (by simpa using hj)⟩
  rw [List.length_set] at hj
  by_cases e : j = q
  · subst e
    have := World.cell?_setCell_same W ⟨B, j, none⟩ (.int .u8 (x.toNat : Int)) (h.cell j hj)
    rw [this]; simp [List.getD, hj]
  · rw [World.cell?_setCell_other _ _ _ _ (by simp <;> exact fun h => e h.symm), h.cell j hj]
    simp [List.getD, List.getElem?_set, show ¬ q = j from fun h => e h.symm]
theorem BytesIn.drew {W : World} {B : Nat} {l : List UInt8} (h : BytesIn W B l) : BytesIn W.drew B l := ⟨h.lt, h.cell, h.free⟩
theorem BytesIn.seen {W : World} {B cp : Nat} {l : List UInt8} (h : BytesIn W B l) (h1 : l.length ≤ cp) (h2 : cp ≤ maxLen) : Seen W (.slice (some ⟨B, 0, none⟩) l.length cp) (bys l) := by
  refine ⟨some ⟨B, 0, none⟩, cp, by rw [bys_length], by rw [bys_length]; exact h1, h2, fun _ => ⟨B, 0, rfl, h.lt, fun i u hu => ?_⟩⟩
  have hi : i < l.length := by
    rcases Nat.lt_or_ge i l.length with h | h
    · exact h
    · rw [List.getElem?_eq_none (by simpa using h)] at hu; cases hu
  rw [bys_get l i hi] at hu
  cases hu
  rw [Nat.zero_add, h.cell i hi]; simp [List.getD, hi]
theorem bytes_of_str {P : Program} (w : World) (src dst e : TypeId) (l : List UInt8) (hs : P.underlying src = some .string) (hd : P.underlying dst = some (.slice e)) (he : P.underlying e = some (.int .u8)) (hl : l.length ≤ maxLen) :
    ∃ cp w1, (convert src dst (.string (str l))).run P w = .ok (.slice (some ⟨w.heap.size, 0, none⟩) l.length cp) w1 ∧ l.length ≤ cp ∧ cp ≤ maxLen ∧ BytesIn w1 w.heap.size l ∧ Below w.heap.size w w1 := by
  have h := Lib.run_convert_string_bytes (P := P) w src dst e (str l) hs hd he
  rw [str_size] at h
  refine ⟨_, _, h, grownCap_ge _ _ _ _, grownCap_le_maxLen _ _ _ _ hl, ⟨by rw [Lib.bytesWorld_size]; omega, fun j hj => ?_, fun j hj => ?_⟩, ⟨rfl, rfl, rfl, by rw [Lib.bytesWorld_size]; omega, fun k hk => Lib.bytesWorld_at_old _ _ _ _ hk⟩⟩
  · have := Lib.bytesWorld_cell w e (str l) j (by rw [str_size]; exact hj)
    rw [this]; rfl
  · simp only [World.frozen?, Lib.bytesWorld_at_new]
    have : j < (Lib.bytesCells w e (str l)).size := by
      have e1 : (Lib.bytesCells w e (str l)).size = (str l).data.size + (grownCap w (str l).size 0 e - (str l).size) := by simp [Lib.bytesCells]
      have e2 : (str l).data.size = l.length := by show l.toArray.size = _; simp
      omega
    simp; omega
end G294

/- Contracts of the laws' helpers on []byte: a copy, equality, marks, marks held. -/
namespace Go.Proofs.Ytbfchebnooanjaa
open Go.RowKit G294

/-- a new row of the call's own is returned; old memory is as it was -/
def Made (w : World) (E : TypeId) (xs : List Value) (e : Ending) (w' : World) : Prop := ∃ v, e = .returned v ∧ w'.ownsRow w.heap.size E 1 v xs.length xs ∧ Below w.heap.size w w'

/-- a new row of the call's own and a bool are returned; old memory is as it was -/
def MadeOk (w : World) (E : TypeId) (xs : List Value) (ok : Bool) (e : Ending) (w' : World) : Prop := ∃ v, e = .returned (.tuple #[v, .bool ok]) ∧ w'.ownsRow w.heap.size E 1 v xs.length xs ∧ Below w.heap.size w w'

theorem infoByte : (Try.prog.info? 5).map (fun i => (i.zero, i.size, i.bytes)) = some (some (.int .u8 0), 1, 1) := by kernel_rfl

theorem bne_byte {x y : UInt8} (b : Bool) (h : (x != y) = b) : ((x.toNat : Int) != (y.toNat : Int)) = b := by
  subst h
  by_cases e : x = y
  · subst e; simp
  · have : x.toNat ≠ y.toNat := fun h => e (UInt8.toNat_inj.1 h)
    rw [(bne_iff_ne (a := x) (b := y)).2 e, bne_iff_ne]; omega

/-- a bool is returned; old memory is as it was -/
def Tells (w : World) (b : Bool) (e : Ending) (w' : World) : Prop := e = .returned (.bool b) ∧ Below w.heap.size w w'

theorem eq_at {l m : List UInt8} {k : Nat} (hl : k < l.length) (hm : k < m.length) (h : l[k] ≠ m[k]) : (l == m) = false := by
  rw [beq_eq_false_iff_ne]
  intro e; subst e; exact h rfl
theorem eq_all {l m : List UInt8} (hl : l.length = m.length) (h : ∀ i (h1 : i < l.length) (h2 : i < m.length), l[i] = m[i]) : (l == m) = true := by
  rw [beq_iff_eq]; exact List.ext_getElem hl h

/-- a number is returned, the row that was handed in holds the cells xs, nothing else that was there has turned -/
def Marked (w : World) (E : TypeId) (base : Nat) (v : Value) (xs : List Value) (m : Int) (e : Ending) (w' : World) : Prop :=
  e = .returned (.int .i64 m) ∧ w'.ownsRow base E 1 v xs.length xs ∧ w.grownBy w' v.ownBlock

/-- a number is returned; old memory is as it was -/
def TellsInt (w : World) (m : Int) (e : Ending) (w' : World) : Prop := e = .returned (.int .i64 m) ∧ Below w.heap.size w w'
end Go.Proofs.Ytbfchebnooanjaa

/- Contracts of the laws' helpers on []int: a copy, equality, marks, marks held. -/
namespace Go.Proofs.Ytbfchebnooanjaa
open Go.RowKit G294

theorem infoInt : (Try.prog.info? 3).map (fun i => (i.zero, i.size, i.bytes)) = some (some (.int .i64 0), 1, 8) := by kernel_rfl

theorem eq_atI {l m : List Int} {k : Nat} (hl : k < l.length) (hm : k < m.length) (h : l[k] ≠ m[k]) : (l == m) = false := by
  rw [beq_eq_false_iff_ne]
  intro e; subst e; exact h rfl

theorem eq_allI {l m : List Int} (hl : l.length = m.length) (h : ∀ i (h1 : i < l.length) (h2 : i < m.length), l[i] = m[i]) : (l == m) = true := by
  rw [beq_iff_eq]; exact List.ext_getElem hl h

set_option maxHeartbeats 400000 in
theorem eqIntS_any (v u : Value) (l m : List Int) (w : World) (hv : Seen w v (ints l)) (hu : Seen w u (ints m)) :
    Calls Try.prog 34 #[v, u] w (Tells w (l == m)) := by
  obtain ⟨A, c, rfl, hlc, hcm, hx⟩ := hv
  obtain ⟨A', c', rfl, hlc', hcm', hx'⟩ := hu
  rw [ints_length] at hlc hx hlc' hx'
  simp only [ints_length]
  unfold maxLen at hcm hcm'
  by_cases hlen : l.length = m.length
  · generalize hnn : l.length = n at *
    generalize hmm : m.length = n' at *
    obtain rfl : n = n' := by omega
    have HN := Lib.hid hnn
    have HM := Lib.hid hmm
    clear hnn hmm
    have hbn : ((n : Int) != (n : Int)) = false := by simp
    go_enter Try.func34, Try.ntmps34
    go_wp2_with fail
    go_loopw [5] (fun i wr => ∃ k : Nat, k ≤ n ∧ i = .int .i64 k ∧ Hid (∀ i (h1 : i < l.length) (h2 : i < m.length), i < k → l[i] = m[i]) ∧ Below w.heap.size w wr)
      (fun i _ => n - (intOf i).toNat)
    case atStart => exact ⟨0, Nat.zero_le _, rfl, (fun _ _ _ h => by omega), Below.refl _ _⟩
    case round =>
      obtain ⟨k, hk, rfl, HE, hb⟩ := hrel
      by_cases hlt : k < n
      · obtain ⟨b, off, rfl, hbl, hcell⟩ := hx (by omega)
        obtain ⟨b', off', rfl, hbl', hcell'⟩ := hx' (by omega)
        have hkl : k < l.length := by rw [HN.out]; exact hlt
        have hkm : k < m.length := by rw [HM.out]; exact hlt
        have hcx : wr.cell? ⟨b, off + k, none⟩ = some (.int .i64 (l[k])) := (hb.cell (p := ⟨b, off + k, none⟩) hbl).trans (hcell k _ (ints_get l k hkl))
        have hcy : wr.cell? ⟨b', off' + k, none⟩ = some (.int .i64 (m[k])) := (hb.cell (p := ⟨b', off' + k, none⟩) hbl').trans (hcell' k _ (ints_get m k hkm))
        clear hcell hcell' hx hx'
        have hki : (k : Int) < (n : Int) := by omega
        by_cases hne : l[k] = m[k]
        · have hbb : (l[k] != m[k]) = false := by simp [hne]
          have HK : Hid (∀ i (h1 : i < l.length) (h2 : i < m.length), i < k + 1 → l[i] = m[i]) := fun i h1 h2 h => by
            rcases Nat.lt_or_ge i k with h' | h'
            · exact HE.out i h1 h2 h'
            · obtain rfl : i = k := by omega
              exact hne
          clear hne
          go_wp2_with fail
          go_quiet (fail)
          go_wp2_with fail
          go_roundw
          case rel => exact ⟨k + 1, by omega, by go_num, HK, below_drewN hb _⟩
          case measure => simp [intOf]; omega
        · have hbb : (l[k] != m[k]) = true := by simpa using hne
          have HF := Lib.hid (eq_atI hkl hkm hne)
          clear hne
          go_wp2_with fail
          go_quiet (fail)
          go_wp2_with fail
          go_ret
          exact ⟨by rw [HF.out]; rfl, below_drewN hb _⟩
      · obtain rfl : k = n := by omega
        have HF := Lib.hid (eq_allI (l := l) (m := m) (by rw [HN.out, HM.out]) (fun i h1 h2 => HE.out i h1 h2 (by rw [HN.out] at h1; exact h1)))
        go_wp2_with fail
        go_ret
        exact ⟨by rw [HF.out]; rfl, hb⟩
  · have hbn : ((l.length : Int) != (m.length : Int)) = true := by simp; omega
    have HF : Hid ((l == m) = false) := by
      show (l == m) = false
      rw [beq_eq_false_iff_ne]; intro e; exact hlen (by rw [e])
    clear hlen
    generalize l.length = n at *
    generalize m.length = n' at *
    go_enter Try.func34, Try.ntmps34
    go_wp2_with fail
    go_ret
    exact ⟨by rw [HF.out]; rfl, Below.refl _ _⟩

set_option maxHeartbeats 400000 in
theorem markIntS_any (v : Value) (l : List Int) (k0 base : Nat) (w : World) (hv : w.ownsRow base 3 1 v l.length (ints l)) (hk0 : k0 + l.length ≤ 1000000000000) :
    Calls Try.prog 35 #[v, .int .i64 k0] w (Marked w 3 base v (ints (marksI k0 l.length)) ((k0 + l.length : Nat) : Int)) := by
  have hown0 := hv
  rcases hv.2 with ⟨rfl, hn⟩ | ⟨g, cap, cur, rfl, hbg, hg, hnc, hcm, hcs, ht⟩
  · have : l = [] := List.eq_nil_of_length_eq_zero hn
    subst this
    have HE := Lib.hid hown0
    clear hown0 hv hn
    go_enter Try.func35, Try.ntmps35
    go_wp2_with fail
    refine wp_loop_once ?_
    go_wp2_with fail
    go_ret
    exact ⟨rfl, HE.out, World.grownBy.refl _ _⟩
  · clear hv hg ht hcs
    unfold maxLen at hcm
    generalize hnn : l.length = n at *
    have HN := Lib.hid hnn
    have hbl : (ints l).length = n := by simp [hnn]
    have HB := Lib.hid hbl
    clear hnn hbl
    go_enter Try.func35, Try.ntmps35
    go_wp2_with fail
    go_loopw [1, 5] (fun q i wr => ∃ k : Nat, k ≤ n ∧ i = .int .i64 k ∧ q = .int .i64 ((k0 : Int) + (k : Int)) ∧ wr.ownsRow base 3 1 (.slice (some ⟨g, 0, none⟩) n cap) n ((ints (marksI k0 n)).take k ++ (ints l).drop k) ∧ w.grownBy wr (some g))
      (fun _ i _ => n - (intOf i).toNat)
    case atStart => exact ⟨0, Nat.zero_le _, rfl, by simp, by simpa using hown0, World.grownBy.refl _ _⟩
    case round =>
      obtain ⟨k, hk, rfl, rfl, hown, hgr⟩ := hrel
      clear hown0
      by_cases hlt : k < n
      · have hco : wr.cell? ⟨g, k, none⟩ = some (.int .i64 (l[k]'(by rw [HN.out]; exact hlt))) := by
          have htk : ((ints (marksI k0 n)).take k).length = k := by simp; omega
          rw [hown.cellAt k (by omega), List.getElem?_append_right (by omega), htk, Nat.sub_self, List.getElem?_drop, Nat.add_zero, ints_get]
        have hfr := hown.frozenAt k
        have hst := hown.stored k (.int .i64 ((k0 + k : Nat) : Int))
        rw [take_set_over _ _ k _ (marksI_get k0 n k hlt) (by simp [HN.out])] at hst
        have hst1 := hst.1
        have hst2 : w.grownBy _ (some g) := hgr.trans hst.2
        have HC : Hid (((k0 + k : Nat) : Int) = (k0 : Int) + (k : Int)) := Int.natCast_add k0 k
        rw [HC.out] at hst1 hst2
        clear hst
        go_wp2_with fail
        go_roundw
        case rel => exact ⟨k + 1, by omega, by go_num, by go_num, hst1, hst2⟩
        case measure => simp [intOf]; omega
      · obtain rfl : k = n := by omega
        go_wp2_with fail
        go_ret
        refine ⟨?_, ?_, hgr⟩
        · exact congrArg (fun z => Ending.returned (.int .i64 z)) (by simp)
        · rw [List.take_of_length_le (by simp), List.drop_of_length_le (by rw [HB.out]; exact Nat.le_refl _), List.append_nil] at hown
          simpa using hown

set_option maxHeartbeats 400000 in
theorem heldIntS_any (v : Value) (k0 n : Nat) (w : World) (hv : Seen w v (ints (marksI k0 n))) (hk0 : k0 + n ≤ 1000000000000) :
    Calls Try.prog 36 #[v, .int .i64 k0] w (TellsInt w ((k0 + n : Nat) : Int)) := by
  obtain ⟨A, c, rfl, hlc, hcm, hx⟩ := hv
  simp only [ints_length, marksI_length] at hlc hx ⊢
  unfold maxLen at hcm
  go_enter Try.func36, Try.ntmps36
  go_wp2_with fail
  go_loopw [1, 5] (fun q i wr => ∃ k : Nat, k ≤ n ∧ i = .int .i64 k ∧ q = .int .i64 ((k0 : Int) + (k : Int)) ∧ Below w.heap.size w wr)
    (fun _ i _ => n - (intOf i).toNat)
  case atStart => exact ⟨0, Nat.zero_le _, rfl, by simp, Below.refl _ _⟩
  case round =>
    obtain ⟨k, hk, rfl, rfl, hb⟩ := hrel
    by_cases hlt : k < n
    · obtain ⟨b, off, rfl, hbl, hcell⟩ := hx (by omega)
      have hcx : wr.cell? ⟨b, off + k, none⟩ = some (.int .i64 ((k0 : Int) + (k : Int))) := by
        have := (hb.cell (p := ⟨b, off + k, none⟩) hbl).trans (hcell k _ (marksI_get k0 n k hlt))
        rwa [Int.natCast_add] at this
      clear hcell hx
      have hki : (k : Int) < (n : Int) := by omega
      have hbb : ((k0 : Int) + (k : Int) != (k0 : Int) + (k : Int)) = false := by simp
      go_wp2_with fail
      go_roundw
      case rel => exact ⟨k + 1, by omega, by go_num, by go_num, hb⟩
      case measure => simp [intOf]; omega
    · obtain rfl : k = n := by omega
      go_wp2_with fail
      go_ret
      exact ⟨congrArg (fun z => Ending.returned (.int .i64 z)) (by simp), hb⟩

theorem eqIntS_same (v u : Value) (l : List Int) (w : World) (hv : Seen w v (ints l)) (hu : Seen w u (ints l)) : Calls Try.prog 34 #[v, u] w (RetBool w true) := by
  have := eqIntS_any v u l l w hv hu
  rw [beq_self_eq_true] at this
  exact this.mono fun e w' ⟨he, hb⟩ => ⟨he, TurnIn.of_below hb⟩

theorem markIntS_own (v : Value) (l : List Int) (k lo hi : Nat) (w : World) (hv : OwnInts 3 w lo hi v l) (hk : k + l.length ≤ 1000000000000) :
    Calls Try.prog 35 #[v, .int .i64 k] w (RetMarkI 3 w lo hi v k l.length) :=
  (markIntS_any v l k lo w hv.1 hk).mono fun e w' ⟨he, ho, hg⟩ => ⟨he, ⟨by simpa using ho, Nat.le_trans hv.2.1 hg.size, hv.2.2⟩, TurnIn.of_grown hg fun g h => ⟨(hv.1.lt g h).1, hv.2.2 g h⟩⟩

theorem heldIntS_own (v : Value) (k n : Nat) (w : World) (hv : Seen w v (ints (marksI k n))) (hk : k + n ≤ 1000000000000) : Calls Try.prog 36 #[v, .int .i64 k] w (RetInt w ((k + n : Nat) : Int)) :=
  (heldIntS_any v k n w hv hk).mono fun e w' ⟨he, hb⟩ => ⟨he, TurnIn.of_below hb⟩

end Go.Proofs.Ytbfchebnooanjaa

/- Rows of ints: append of a row, slices of a row. -/
namespace G294
open Go Go.RowKit
/-- a nil slice has no room -/
def NilI (v : Value) : Prop := ∀ n c, v = .slice none n c → n = 0 ∧ c = 0
theorem own_nilI {w : World} {base n size : Nat} {e : TypeId} {v : Value} {xs : List Value} (h : w.ownsRow base e size v n xs) : NilI v := fun m c e => by
  rcases h.2 with ⟨rfl, _⟩ | ⟨g, cap, cur, rfl, _⟩
  · simp only [Value.slice.injEq] at e; omega
  · simp at e
theorem ints_one (l : List Int) : ∀ u ∈ ints l, u.oneCell' = true := fun u hu => by
  simp only [ints, List.mem_map] at hu
  obtain ⟨x, _, rfl⟩ := hu
  rfl
/-- append(s, ints...) -/
theorem wpList_appendIs {P : Program} {w : World} {ops : Array Oper} {rest : List Oper} {o : Oper} {a : Act} {Q : Exit → Act → World → Prop} (hgd : o.guard = none) (s x : Operand) (t : TypeId)
    (ho : o.op = .call { callee := .builtin .append, args := #[s, x], argTypes := #[t, t] })
    (base : Nat) (e : TypeId) (z : Value) (bytes : Nat) (ht : P.underlying t = some (.slice e)) (hinfo : (P.info? e).map (fun i => (i.zero, i.size, i.bytes)) = some (some z, 1, bytes)) (hzs : z.cells.size = 1) (hby : bytes ≤ 1000)
    (v : Value) (n : Nat) (l m : List Int) (hs : a.eval s = v) (hown : w.ownsRow base e 1 v n (ints l)) (u : Value) (hx : a.eval x = u) (hu : Seen w u (ints m)) (hN : NilI u)
    (hn : n + m.length ≤ 1000000000) (hbase : base ≤ w.heap.size)
    (h : ∀ v' w', w'.ownsRow base e 1 v' (n + m.length) (ints (l ++ m)) → w.grownBy w' v.ownBlock → (v'.ownBlock = v.ownBlock ∨ v'.ownBlock = some w.heap.size) → wpList P ops Q rest (a.put o.dst v') w') :
    wpList P ops Q (o :: rest) a w := by
  obtain ⟨i, hi, hz, hsz, hbs⟩ := info_parts hinfo
  obtain ⟨A, c, rfl, hlc, hcm, hc⟩ := hu
  rw [ints_length] at hlc hc
  cases A with
  | none =>
    obtain ⟨h1, h2⟩ := hN _ c rfl
    rw [ints_length] at h1
    have hm : m = [] := List.eq_nil_of_length_eq_zero h1
    subst hm h2
    exact wpList_append_own_none hgd s x t ho base e i 1 ht hi v n (ints l) hs hown hx (h v w (by simpa using hown) (World.grownBy.refl _ _) (.inl rfl))
  | some ad =>
    refine wpList_append_own_at w hgd s x t ho base e i _ 1 bytes ht hi hz hsz hbs hzs (by omega) v n (ints l) hs hown ad m.length c (ints m) (by rw [hx, ints_length]) (by simp) (fun j y hj => ?_) (ints_one m) (by unfold maxLen; omega) (by
      have : (n + m.length) * bytes ≤ 1000000000 * 1000 := Nat.mul_le_mul hn hby
      omega) hbase (fun v' w' h2 h3 _ h5 => h v' w' (by rw [ints_append]; exact h2) h3 h5)
    have hj' : 0 < m.length := by have := (List.getElem?_eq_some_iff.1 hj).1; simp at this; omega
    obtain ⟨b, off, e', _, hcc⟩ := hc hj'
    simp only [Option.some.injEq] at e'
    subst e'
    rw [Addr.add_lit]
    exact hcc j y hj
end G294
namespace Go.Proofs.Ytbfchebnooanjaa
open Go.RowKit G294

theorem sliceHighI {w : World} {A : Option Addr} {n c k : Nat} {l : List Int} (hs : Seen w (.slice A n c) (ints l)) (hN : NilI (.slice A n c)) (hk : k ≤ l.length) :
    ∃ u, (∀ W, (Instr.slice 28 (.slice A n c) none (some (.int .i64 (k : Int))) none).run Try.prog W = .ok u W) ∧ (∀ W, (Instr.sliceAt 28 (.slice A n c) none (some (.int .i64 (k : Int))) none).run Try.prog W = .ok u W) ∧ Seen w u (ints (l.take k)) ∧ NilI u := by
  obtain ⟨A', c', e, h1, h2, h3⟩ := hs
  simp only [Value.slice.injEq] at e
  obtain ⟨rfl, rfl, rfl⟩ := e
  rw [ints_length] at h1 h3
  have hel : ∀ W, (sizeOf (Try.prog.elem 28)).run Try.prog W = .ok 1 W := fun W => by kernel_rfl
  have hrun : ∀ W, (Instr.slice 28 (.slice A (ints l).length c) none (some (.int .i64 (k : Int))) none).run Try.prog W = .ok (.slice A k c) W := fun W => by
    rw [run_slice_h W 28 _ _ c (by kernel_rfl) .i64 k (by omega) (by omega), hel]
    by_cases hc : c = 0
    · subst hc; simp [Result.andThen, sliced]
    · cases A with
      | none => exact absurd (hN _ c rfl).2 hc
      | some a => simp [Result.andThen, sliced, hc, Addr.add]
  refine ⟨.slice A k c, hrun, fun W => by rw [run_sliceAt_slice W 28 _ _ _ _ (by kernel_rfl)]; exact hrun W, ⟨A, c, by simp [Nat.min_eq_left hk], by simp; omega, h2, fun hp => ?_⟩, fun m d e => ?_⟩
  · simp only [ints_length, List.length_take] at hp
    obtain ⟨b, o, rfl, hb, hc⟩ := h3 (by omega)
    refine ⟨b, o, rfl, hb, fun i u hu => hc i u ?_⟩
    have hi : i < (l.take k).length := by have := (List.getElem?_eq_some_iff.1 hu).1; simpa using this
    rw [ints_get _ i hi] at hu
    rw [← hu, List.getElem_take]
    exact ints_get l i (by rw [List.length_take] at hi; omega)
  · simp only [Value.slice.injEq] at e
    obtain ⟨rfl, rfl, rfl⟩ := e
    have := hN _ c rfl
    rw [ints_length] at this
    omega

theorem sliceLowI {w : World} {A : Option Addr} {n c k : Nat} {l : List Int} (hs : Seen w (.slice A n c) (ints l)) (hN : NilI (.slice A n c)) (hk : k ≤ l.length) :
    ∃ u, (∀ W, (Instr.slice 28 (.slice A n c) (some (.int .i64 (k : Int))) none none).run Try.prog W = .ok u W) ∧ (∀ W, (Instr.sliceAt 28 (.slice A n c) (some (.int .i64 (k : Int))) none none).run Try.prog W = .ok u W) ∧ Seen w u (ints (l.drop k)) ∧ NilI u := by
  obtain ⟨A', c', e, h1, h2, h3⟩ := hs
  simp only [Value.slice.injEq] at e
  obtain ⟨rfl, rfl, rfl⟩ := e
  rw [ints_length] at h1 h3
  have hel : ∀ W, (sizeOf (Try.prog.elem 28)).run Try.prog W = .ok 1 W := fun W => by kernel_rfl
  have hrun : ∀ W, (Instr.slice 28 (.slice A (ints l).length c) (some (.int .i64 (k : Int))) none none).run Try.prog W = .ok (.slice (if c = k then A else A.map (·.add k)) (l.length - k) (c - k)) W := fun W => by
    rw [run_slice_l W 28 _ _ c (by kernel_rfl) .i64 k (by omega) (by rw [ints_length]; omega), hel]
    simp [Result.andThen, sliced]
  refine ⟨_, hrun, fun W => by rw [run_sliceAt_slice W 28 _ _ _ _ (by kernel_rfl)]; exact hrun W, ⟨_, c - k, by rw [ints_length, List.length_drop], by simp; omega, by omega, fun hp => ?_⟩, fun m d e => ?_⟩
  · simp only [ints_length, List.length_drop] at hp
    obtain ⟨b, o, rfl, hb, hc⟩ := h3 (by omega)
    rw [if_neg (by omega)]
    refine ⟨b, o + k, by simp [Addr.add], hb, fun i u hu => ?_⟩
    have hi : i < (l.drop k).length := by have := (List.getElem?_eq_some_iff.1 hu).1; simpa using this
    rw [ints_get _ i hi] at hu
    rw [← hu, List.getElem_drop, Nat.add_assoc]
    exact hc (k + i) _ (ints_get l (k + i) (by rw [List.length_drop] at hi; omega))
  · simp only [Value.slice.injEq] at e
    obtain ⟨e1, rfl, rfl⟩ := e
    by_cases hc : c = k
    · subst hc; omega
    · rw [if_neg hc] at e1
      cases A with
      | none =>
        have := hN _ c rfl
        rw [ints_length] at this
        omega
      | some a => simp at e1
end Go.Proofs.Ytbfchebnooanjaa

/- Chapter 10: convolutional codes in plain mathematics: outputs, runs, the best paths to each state, that no bits cost less, and the free distance. -/
namespace G294
open Go Go.RowKit

def isBitC (c : UInt8) : Bool := c == 48 || c == 49
def bitsOk (s : List UInt8) (m : Nat) : Bool := decide (s.length ≤ m) && s.all isBitC
/-- a character as a bit, a bit as a character -/
def bv (c : UInt8) : Nat := if c = 49 then 1 else 0
def chB (b : Nat) : UInt8 := UInt8.ofNat (48 + b)
/-- the outputs of a bit at a state, and the next state -/
def outN (st b : Nat) : List UInt8 := [chB (b ^^^ (st / 2) ^^^ (st % 2)), chB (b ^^^ (st % 2)), chB (b ^^^ (st / 2))]
def nxtN (st b : Nat) : Nat := 2 * b + st / 2
def encT (st : Nat) : List UInt8 → List UInt8
  | [] => []
  | c :: s => outN st (bv c) ++ encT (nxtN st (bv c)) s
def endT (st : Nat) : List UInt8 → Nat
  | [] => st
  | c :: s => endT (nxtN st (bv c)) s
/-- in how many places lists differ -/
def dl : List UInt8 → List UInt8 → Nat
  | a :: x, b :: y => (if a = b then 0 else 1) + dl x y
  | _, _ => 0

theorem bv_lt (c : UInt8) : bv c < 2 := by unfold bv; split <;> omega
theorem bv_chB {b : Nat} (h : b < 2) : bv (chB b) = b := by
  match b, h with
  | 0, _ => decide
  | 1, _ => decide
theorem isBit_chB {b : Nat} (h : b < 2) : isBitC (chB b) = true := by
  match b, h with
  | 0, _ => decide
  | 1, _ => decide
theorem isBitC_or {c : UInt8} (h : isBitC c = true) : c = 48 ∨ c = 49 := by simpa [isBitC] using h
theorem chB_bv {c : UInt8} (h : isBitC c = true) : chB (bv c) = c := by
  rcases isBitC_or h with rfl | rfl <;> decide
theorem bv_ne {c d : UInt8} (hc : isBitC c = true) (hd : isBitC d = true) (h : c ≠ d) : bv c ≠ bv d := fun e => h (by rw [← chB_bv hc, ← chB_bv hd, e])
theorem nxtN_lt {st b : Nat} (h : st < 4) (hb : b < 2) : nxtN st b < 4 := by unfold nxtN; omega
@[simp] theorem outN_len (st b : Nat) : (outN st b).length = 3 := rfl
@[simp] theorem encT_len (st : Nat) (s : List UInt8) : (encT st s).length = 3 * s.length := by
  induction s generalizing st with
  | nil => rfl
  | cons c s ih => simp [encT, ih]; omega
theorem encT_append (st : Nat) (s t : List UInt8) : encT st (s ++ t) = encT st s ++ encT (endT st s) t := by
  induction s generalizing st with
  | nil => rfl
  | cons c s ih => simp [encT, endT, ih]
theorem endT_append (st : Nat) (s t : List UInt8) : endT st (s ++ t) = endT (endT st s) t := by
  induction s generalizing st with
  | nil => rfl
  | cons c s ih => simp [endT, ih]
theorem endT_lt {st : Nat} (h : st < 4) (s : List UInt8) : endT st s < 4 := by
  induction s generalizing st with
  | nil => exact h
  | cons c s ih => exact ih (nxtN_lt h (bv_lt c))
theorem encT_snoc (st : Nat) (s : List UInt8) (c : UInt8) : encT st (s ++ [c]) = encT st s ++ outN (endT st s) (bv c) := by simp [encT_append, encT]
theorem endT_snoc (st : Nat) (s : List UInt8) (c : UInt8) : endT st (s ++ [c]) = nxtN (endT st s) (bv c) := by simp [endT_append, endT]

theorem dl_append {a b : List UInt8} (h : a.length = b.length) (x y : List UInt8) : dl (a ++ x) (b ++ y) = dl a b + dl x y := by
  induction a generalizing b with
  | nil =>
    cases b with
    | nil => simp [dl]
    | cons d b => simp at h
  | cons c a ih =>
    cases b with
    | nil => simp at h
    | cons d b => simp only [List.cons_append, dl, ih (by simpa using h)]; omega
theorem dl_self (a : List UInt8) : dl a a = 0 := by
  induction a with
  | nil => rfl
  | cons c a ih => simp [dl, ih]
theorem dl_nil (a : List UInt8) : dl a [] = 0 := by cases a <;> rfl
theorem dl_comm (a b : List UInt8) : dl a b = dl b a := by
  induction a generalizing b with
  | nil => cases b <;> rfl
  | cons c a ih =>
    cases b with
    | nil => rfl
    | cons d b =>
      simp only [dl, ih b]
      by_cases e : c = d
      · subst e; rfl
      · rw [if_neg e, if_neg (fun h => e h.symm)]
theorem dl_tri {a b c : List UInt8} (h1 : a.length = b.length) (h2 : b.length = c.length) : dl a c ≤ dl a b + dl b c := by
  induction a generalizing b c with
  | nil => cases c <;> simp [dl]
  | cons x a ih =>
    cases b with
    | nil => simp at h1
    | cons y b =>
      cases c with
      | nil => simp at h2
      | cons z c =>
        have := ih (b := b) (c := c) (by simpa using h1) (by simpa using h2)
        simp only [dl]
        by_cases e1 : x = y
        · subst e1; simp; omega
        · rw [if_neg e1]; split <;> split <;> omega
theorem dl_le {a b : List UInt8} : dl a b ≤ a.length := by
  induction a generalizing b with
  | nil => cases b <;> simp [dl]
  | cons x a ih =>
    cases b with
    | nil => simp [dl]
    | cons y b => simp only [dl, List.length_cons]; have := ih (b := b); split <;> omega

/-- what two runs still differ in, at least, when their states are so far apart and they meet -/
def remD (d : Nat) : Nat := if d = 0 then 0 else if d = 1 then 2 else 4
theorem rem_step : ∀ u, u < 4 → ∀ v, v < 4 → ∀ c, c < 2 → ∀ d, d < 2 → remD (u ^^^ v) ≤ dl (outN u c) (outN v d) + remD (nxtN u c ^^^ nxtN v d) := by decide +kernel
theorem rem_split : ∀ u, u < 4 → ∀ c, c < 2 → ∀ d, d < 2 → c ≠ d → 7 ≤ dl (outN u c) (outN u d) + remD (nxtN u c ^^^ nxtN u d) := by decide +kernel
theorem far_rem (a : List UInt8) : ∀ (b : List UInt8) (u v : Nat), a.length = b.length → u < 4 → v < 4 → endT u a = endT v b → remD (u ^^^ v) ≤ dl (encT u a) (encT v b) := by
  induction a with
  | nil =>
    intro b u v hl hu hv he
    cases b with
    | nil =>
      simp only [endT] at he
      subst he
      simp [remD]
    | cons d b => simp at hl
  | cons c a ih =>
    intro b u v hl hu hv he
    cases b with
    | nil => simp at hl
    | cons d b =>
      have h1 := rem_step u hu v hv (bv c) (bv_lt c) (bv d) (bv_lt d)
      have h2 := ih b (nxtN u (bv c)) (nxtN v (bv d)) (by simpa using hl) (nxtN_lt hu (bv_lt c)) (nxtN_lt hv (bv_lt d)) he
      simp only [encT]
      rw [dl_append (by simp)]
      omega
/-- the free distance: different bits between the same states differ in seven outputs at least -/
theorem far_seven (a : List UInt8) : ∀ (b : List UInt8) (u : Nat), a.length = b.length → a.all isBitC = true → b.all isBitC = true → a ≠ b → u < 4 → endT u a = endT u b → 7 ≤ dl (encT u a) (encT u b) := by
  induction a with
  | nil =>
    intro b u hl _ _ hne _ _
    cases b with
    | nil => exact absurd rfl hne
    | cons d b => simp at hl
  | cons c a ih =>
    intro b u hl ha hb hne hu he
    cases b with
    | nil => simp at hl
    | cons d b =>
      simp only [List.all_cons, Bool.and_eq_true] at ha hb
      simp only [encT]
      rw [dl_append (by simp)]
      by_cases e : c = d
      · subst e
        have := ih b (nxtN u (bv c)) (by simpa using hl) ha.2 hb.2 (fun h => hne (by rw [h])) (nxtN_lt hu (bv_lt c)) he
        omega
      · have h1 := rem_split u hu (bv c) (bv_lt c) (bv d) (bv_lt d) (bv_ne ha.1 hb.1 e)
        have h2 := far_rem a b (nxtN u (bv c)) (nxtN u (bv d)) (by simpa using hl) (nxtN_lt hu (bv_lt c)) (nxtN_lt hu (bv_lt d)) he
        omega

/-- the order of texts -/
theorem bl_irr (a : List UInt8) : Op.bytesLess a a = false := by
  induction a with
  | nil => rfl
  | cons x a ih => simp [Op.bytesLess, ih]
theorem bl_append {a b : List UInt8} (h : a.length = b.length) (t : List UInt8) : Op.bytesLess (a ++ t) (b ++ t) = Op.bytesLess a b := by
  induction a generalizing b with
  | nil =>
    cases b with
    | nil => simp [bl_irr, Op.bytesLess]
    | cons d b => simp at h
  | cons c a ih =>
    cases b with
    | nil => simp at h
    | cons d b => simp [Op.bytesLess, ih (by simpa using h : a.length = b.length)]
theorem bl_asym {a b : List UInt8} (h : Op.bytesLess a b = true) : Op.bytesLess b a = false := by
  induction a generalizing b with
  | nil =>
    cases b with
    | nil => simp [Op.bytesLess] at h
    | cons d b => rfl
  | cons c a ih =>
    cases b with
    | nil => simp [Op.bytesLess] at h
    | cons d b =>
      simp only [Op.bytesLess, Bool.or_eq_true, Bool.and_eq_true, decide_eq_true_eq, beq_iff_eq] at h
      simp only [Op.bytesLess, Bool.or_eq_false_iff, Bool.and_eq_false_iff, decide_eq_false_iff_not, beq_eq_false_iff_ne]
      rcases h with h | ⟨rfl, h⟩
      · exact ⟨UInt8.not_lt.2 (UInt8.le_of_lt h), .inl (fun e => UInt8.ne_of_lt h e.symm)⟩
      · exact ⟨UInt8.lt_irrefl _, .inr (ih h)⟩
theorem bl_trans {a b c : List UInt8} (h1 : Op.bytesLess b a = false) (h2 : Op.bytesLess c b = false) : Op.bytesLess c a = false := by
  induction a generalizing b c with
  | nil => cases c <;> rfl
  | cons x a ih =>
    cases b with
    | nil => simp [Op.bytesLess] at h1
    | cons y b =>
      cases c with
      | nil => simp [Op.bytesLess] at h2
      | cons z c =>
        simp only [Op.bytesLess, Bool.or_eq_false_iff, Bool.and_eq_false_iff, decide_eq_false_iff_not, beq_eq_false_iff_ne, UInt8.not_lt] at h1 h2 ⊢
        refine ⟨UInt8.le_trans h1.1 h2.1, ?_⟩
        by_cases e : z = x
        · subst e
          have e2 : y = z := UInt8.le_antisymm h2.1 h1.1
          subst e2
          refine .inr (ih (b := b) (c := c) ?_ ?_)
          · exact h1.2.resolve_left (fun h => h rfl)
          · exact h2.2.resolve_left (fun h => h rfl)
        · exact .inl e

/-- a path: its bits and its cost, -1 for none -/
abbrev Pt := List UInt8 × Int
def noP : Pt := ([], -1)
def betterP (a b : Pt) : Bool := decide (b.2 < 0) || (decide (a.2 < b.2) || (decide (a.2 = b.2) && Op.bytesLess a.1 b.1))
def cand (p : Pt) (st b : Nat) (r : List UInt8) : Pt := (p.1 ++ [chB b], p.2 + (dl (outN st b) r : Nat))
def addC (p x acc : Pt) : Pt := if p.2 < 0 then acc else if betterP x acc = true then x else acc
/-- the best path to a state by the states below n -/
def upTo (l : List Pt) (r : List UInt8) (to : Nat) : Nat → Pt
  | 0 => noP
  | n + 1 => if nxtN n (to / 2) = to then addC (l.getD n noP) (cand (l.getD n noP) n (to / 2) r) (upTo l r to n) else upTo l r to n
def stepP (l : List Pt) (r : List UInt8) : List Pt := [upTo l r 0 4, upTo l r 1 4, upTo l r 2 4, upTo l r 3 4]
def stepL (l : List Pt) (r : List UInt8) : List Pt := [upTo l r 0 4, upTo l r 1 4, noP, noP]
def startP : List Pt := [([], 0), noP, noP, noP]
def pathsN (r : List UInt8) : Nat → List Pt
  | 0 => startP
  | k + 1 => stepP (pathsN r k) ((r.drop (3 * k)).take 3)
@[simp] theorem stepP_len (l : List Pt) (r : List UInt8) : (stepP l r).length = 4 := rfl
@[simp] theorem stepL_len (l : List Pt) (r : List UInt8) : (stepL l r).length = 4 := rfl
@[simp] theorem pathsN_len (r : List UInt8) (k : Nat) : (pathsN r k).length = 4 := by cases k <;> rfl
theorem stepP_at (l : List Pt) (r : List UInt8) {t : Nat} (h : t < 4) : (stepP l r).getD t noP = upTo l r t 4 := by
  match t, h with
  | 0, _ => rfl
  | 1, _ => rfl
  | 2, _ => rfl
  | 3, _ => rfl
theorem upTo_low (l m : List Pt) (r : List UInt8) {t : Nat} (h : t < 2) (ht : t % 2 = 0) (h0 : l.getD 0 noP = m.getD 0 noP) (h1 : l.getD 1 noP = m.getD 1 noP) : upTo l r t 4 = upTo m r t 4 := by
  obtain rfl : t = 0 := by omega
  have e2 : ¬ nxtN 2 (0 / 2) = 0 := by decide
  have e3 : ¬ nxtN 3 (0 / 2) = 0 := by decide
  rw [upTo, if_neg e3, upTo, if_neg e2, upTo, upTo, upTo, upTo, if_neg e3, upTo, if_neg e2, upTo, upTo, upTo, h0, h1]
/-- two steps by zeros alone lead to state 0 as two free steps do -/
theorem stepL_two (l : List Pt) (q r : List UInt8) : (stepL (stepL l q) r).getD 0 noP = (stepP (stepP l q) r).getD 0 noP :=
  show upTo (stepL l q) r 0 4 = upTo (stepP l q) r 0 4 from upTo_low (t := 0) (stepL l q) (stepP l q) r (by omega) rfl rfl rfl

/-- the model's round: one state, one bit -/
def mStep (l : List Pt) (r : List UInt8) (last : Bool) (out : List Pt) (st b : Nat) : List Pt :=
  if (l.getD st noP).2 < 0 ∨ (last = true ∧ b = 1) then out
  else if betterP (cand (l.getD st noP) st b r) (out.getD (nxtN st b) noP) = true then out.set (nxtN st b) (cand (l.getD st noP) st b r) else out
def mAll (l : List Pt) (r : List UInt8) (last : Bool) : Nat → List Pt
  | 0 => [noP, noP, noP, noP]
  | n + 1 => mStep l r last (mAll l r last n) (n / 2) (n % 2)
theorem mStep_free (l : List Pt) (r : List UInt8) (out : List Pt) (last : Bool) (st b : Nat) (h : ¬ (last = true ∧ b = 1)) (hs : nxtN st b < out.length) :
    mStep l r last out st b = out.set (nxtN st b) (addC (l.getD st noP) (cand (l.getD st noP) st b r) (out.getD (nxtN st b) noP)) := by
  have hself : out.set (nxtN st b) (out.getD (nxtN st b) noP) = out := by
    rw [List.getD_eq_getElem?_getD, List.getElem?_eq_getElem hs]; simp
  unfold mStep addC
  by_cases h1 : (l.getD st noP).2 < 0
  · rw [if_pos (Or.inl h1), if_pos h1, hself]
  · rw [if_neg (fun e => e.elim h1 h), if_neg h1]
    split
    · rfl
    · rw [hself]
theorem mStep_last (l : List Pt) (r : List UInt8) (out : List Pt) (st b : Nat) (h : b = 1) : mStep l r true out st b = out := if_pos (.inr ⟨rfl, h⟩)
@[simp] theorem mStep_len (l : List Pt) (r : List UInt8) (last : Bool) (out : List Pt) (st b : Nat) : (mStep l r last out st b).length = out.length := by
  unfold mStep; split
  · rfl
  · split <;> simp
@[simp] theorem mAll_len (l : List Pt) (r : List UInt8) (last : Bool) (n : Nat) : (mAll l r last n).length = 4 := by
  induction n with
  | zero => rfl
  | succ n ih => simp [mAll, ih]
theorem upTo_four (l : List Pt) (r : List UInt8) {t : Nat} (h : t < 4) : upTo l r t 4 =
    addC (l.getD (2 * (t % 2) + 1) noP) (cand (l.getD (2 * (t % 2) + 1) noP) (2 * (t % 2) + 1) (t / 2) r) (addC (l.getD (2 * (t % 2)) noP) (cand (l.getD (2 * (t % 2)) noP) (2 * (t % 2)) (t / 2) r) noP) := by
  match t, h with
  | 0, _ => rfl
  | 1, _ => rfl
  | 2, _ => rfl
  | 3, _ => rfl
theorem mAll_free (l : List Pt) (r : List UInt8) : mAll l r false 8 = stepP l r := by
  have e : ∀ (out : List Pt) (st b : Nat), out.length = 4 → nxtN st b < 4 → mStep l r false out st b = out.set (nxtN st b) (addC (l.getD st noP) (cand (l.getD st noP) st b r) (out.getD (nxtN st b) noP)) :=
    fun out st b h h' => mStep_free l r out false st b (by simp) (by omega)
  unfold stepP
  rw [upTo_four l r (by omega), upTo_four l r (by omega), upTo_four l r (by omega), upTo_four l r (by omega)]
  have s1 : mAll l r false 1 = _ := e [noP, noP, noP, noP] 0 0 (by simp) (by decide)
  have s2 : mAll l r false 2 = _ := (congrArg (fun o => mStep l r false o 0 1) s1).trans (e _ 0 1 (by simp) (by decide))
  have s3 : mAll l r false 3 = _ := (congrArg (fun o => mStep l r false o 1 0) s2).trans (e _ 1 0 (by simp) (by decide))
  have s4 : mAll l r false 4 = _ := (congrArg (fun o => mStep l r false o 1 1) s3).trans (e _ 1 1 (by simp) (by decide))
  have s5 : mAll l r false 5 = _ := (congrArg (fun o => mStep l r false o 2 0) s4).trans (e _ 2 0 (by simp) (by decide))
  have s6 : mAll l r false 6 = _ := (congrArg (fun o => mStep l r false o 2 1) s5).trans (e _ 2 1 (by simp) (by decide))
  have s7 : mAll l r false 7 = _ := (congrArg (fun o => mStep l r false o 3 0) s6).trans (e _ 3 0 (by simp) (by decide))
  have s8 : mAll l r false 8 = _ := (congrArg (fun o => mStep l r false o 3 1) s7).trans (e _ 3 1 (by simp) (by decide))
  rw [s8]
  rfl
theorem mAll_last (l : List Pt) (r : List UInt8) : mAll l r true 8 = stepL l r := by
  have e : ∀ (out : List Pt) (st : Nat), out.length = 4 → nxtN st 0 < 4 → mStep l r true out st 0 = out.set (nxtN st 0) (addC (l.getD st noP) (cand (l.getD st noP) st 0 r) (out.getD (nxtN st 0) noP)) :=
    fun out st h h' => mStep_free l r out true st 0 (by simp) (by omega)
  unfold stepL
  rw [upTo_four l r (by omega), upTo_four l r (by omega)]
  have s1 : mAll l r true 1 = _ := e [noP, noP, noP, noP] 0 (by simp) (by decide)
  have s2 : mAll l r true 2 = _ := (congrArg (fun o => mStep l r true o 0 1) s1).trans (mStep_last l r _ 0 1 rfl)
  have s3 : mAll l r true 3 = _ := (congrArg (fun o => mStep l r true o 1 0) s2).trans (e _ 1 (by simp) (by decide))
  have s4 : mAll l r true 4 = _ := (congrArg (fun o => mStep l r true o 1 1) s3).trans (mStep_last l r _ 1 1 rfl)
  have s5 : mAll l r true 5 = _ := (congrArg (fun o => mStep l r true o 2 0) s4).trans (e _ 2 (by simp) (by decide))
  have s6 : mAll l r true 6 = _ := (congrArg (fun o => mStep l r true o 2 1) s5).trans (mStep_last l r _ 2 1 rfl)
  have s7 : mAll l r true 7 = _ := (congrArg (fun o => mStep l r true o 3 0) s6).trans (e _ 3 (by simp) (by decide))
  have s8 : mAll l r true 8 = _ := (congrArg (fun o => mStep l r true o 3 1) s7).trans (mStep_last l r _ 3 1 rfl)
  rw [s8]
  rfl

/-- one text is no worse than another -/
def LeP (c1 : Nat) (s1 : List UInt8) (c2 : Nat) (s2 : List UInt8) : Prop := c1 < c2 ∨ (c1 = c2 ∧ Op.bytesLess s2 s1 = false)
theorem LeP.trans {c1 c2 c3 : Nat} {s1 s2 s3 : List UInt8} (h : LeP c1 s1 c2 s2) (h' : LeP c2 s2 c3 s3) : LeP c1 s1 c3 s3 := by
  rcases h with h | ⟨rfl, h⟩
  · rcases h' with h' | ⟨rfl, h'⟩
    · exact .inl (by omega)
    · exact .inl h
  · rcases h' with h' | ⟨rfl, h'⟩
    · exact .inl h'
    · exact .inr ⟨rfl, bl_trans h h'⟩
theorem LeP.refl (c : Nat) (s : List UInt8) : LeP c s c s := .inr ⟨rfl, bl_irr s⟩
/-- p is the best text of S by its cost -/
def BestQ (S : List UInt8 → Prop) (cost : List UInt8 → Nat) (p : Pt) : Prop :=
  (p = noP ∧ ∀ s, ¬ S s) ∨ (S p.1 ∧ p.2 = (cost p.1 : Int) ∧ ∀ s, S s → LeP (cost p.1) p.1 (cost s) s)
theorem best_join {S1 S2 S : List UInt8 → Prop} {cost : List UInt8 → Nat} {p x : Pt} (hS : ∀ s, S s ↔ S1 s ∨ S2 s) (hp : BestQ S1 cost p)
    (hx : S2 x.1 ∧ x.2 = (cost x.1 : Int) ∧ ∀ s, S2 s → LeP (cost x.1) x.1 (cost s) s) : BestQ S cost (if betterP x p = true then x else p) := by
  obtain ⟨x1, x2, x3⟩ := hx
  rcases hp with ⟨rfl, hn⟩ | ⟨p1, p2, p3⟩
  · have : betterP x noP = true := by simp [betterP, noP]
    rw [if_pos this]
    exact .inr ⟨(hS _).2 (.inr x1), x2, fun s hs => (((hS s).1 hs).elim (fun h => absurd h (hn s)) (x3 s))⟩
  · by_cases hb : betterP x p = true
    · rw [if_pos hb]
      have hle : LeP (cost x.1) x.1 (cost p.1) p.1 := by
        simp only [betterP, Bool.or_eq_true, Bool.and_eq_true, decide_eq_true_eq, x2, p2] at hb
        rcases hb with h | h | ⟨h, h'⟩
        · omega
        · exact .inl (by omega)
        · exact .inr ⟨by omega, bl_asym h'⟩
      exact .inr ⟨(hS _).2 (.inr x1), x2, fun s hs => (((hS s).1 hs).elim (fun h => hle.trans (p3 s h)) (x3 s))⟩
    · rw [if_neg hb]
      have hle : LeP (cost p.1) p.1 (cost x.1) x.1 := by
        simp only [betterP, Bool.or_eq_true, Bool.and_eq_true, decide_eq_true_eq, x2, p2, not_or, not_and, Bool.not_eq_true] at hb
        obtain ⟨_, h2, h3⟩ := hb
        rcases Nat.lt_or_ge (cost p.1) (cost x.1) with h | h
        · exact .inl h
        · exact .inr ⟨by omega, h3 (by omega)⟩
      exact .inr ⟨(hS _).2 (.inl p1), p2, fun s hs => (((hS s).1 hs).elim (p3 s) (fun h => hle.trans (x3 s h)))⟩

/-- the texts of k bits that lead to a state -/
def Lead (k t : Nat) (s : List UInt8) : Prop := s.all isBitC = true ∧ s.length = k ∧ endT 0 s = t
def costT (r s : List UInt8) : Nat := dl (encT 0 s) r
def LeadU (k t n : Nat) (s : List UInt8) : Prop := ∃ s' c, s = s' ++ [c] ∧ s'.all isBitC = true ∧ isBitC c = true ∧ s'.length = k ∧ endT 0 s' < n ∧ nxtN (endT 0 s') (bv c) = t
theorem costT_snoc {r s : List UInt8} (q : List UInt8) (c : UInt8) (h : r.length = 3 * s.length) : costT (r ++ q) (s ++ [c]) = costT r s + dl (outN (endT 0 s) (bv c)) q := by
  unfold costT
  rw [encT_snoc, dl_append (by simp [h])]
theorem nxt_half {n b : Nat} (h : n < 4) : nxtN n b / 2 = b := by unfold nxtN; omega
theorem best_up (l : List Pt) (r q : List UInt8) (k t : Nat) (ht : t < 4) (hr : r.length = 3 * k) (hl : ∀ f, f < 4 → BestQ (Lead k f) (costT r) (l.getD f noP)) :
    ∀ n, n ≤ 4 → BestQ (LeadU k t n) (costT (r ++ q)) (upTo l q t n)
  | 0, _ => .inl ⟨rfl, fun s h => by obtain ⟨s', c, _, _, _, _, h, _⟩ := h; omega⟩
  | n + 1, hn => by
    have ih := best_up l r q k t ht hr hl n (by omega)
    have hmore : ∀ s, LeadU k t (n + 1) s ↔ LeadU k t n s ∨ (∃ s' c, s = s' ++ [c] ∧ s'.all isBitC = true ∧ isBitC c = true ∧ s'.length = k ∧ endT 0 s' = n ∧ nxtN n (bv c) = t) := by
      intro s
      constructor
      · rintro ⟨s', c, h1, h2, h3, h4, h5, h6⟩
        rcases Nat.lt_or_ge (endT 0 s') n with h | h
        · exact .inl ⟨s', c, h1, h2, h3, h4, h, h6⟩
        · have e : endT 0 s' = n := by omega
          exact .inr ⟨s', c, h1, h2, h3, h4, e, by rw [← e]; exact h6⟩
      · rintro (⟨s', c, h1, h2, h3, h4, h5, h6⟩ | ⟨s', c, h1, h2, h3, h4, h5, h6⟩)
        · exact ⟨s', c, h1, h2, h3, h4, by omega, h6⟩
        · exact ⟨s', c, h1, h2, h3, h4, by omega, by rw [h5]; exact h6⟩
    have hno : (∀ s, ¬ (∃ s' c, s = s' ++ [c] ∧ s'.all isBitC = true ∧ isBitC c = true ∧ s'.length = k ∧ endT 0 s' = n ∧ nxtN n (bv c) = t)) → BestQ (LeadU k t (n + 1)) (costT (r ++ q)) (upTo l q t n) := by
      intro hno
      have e : LeadU k t (n + 1) = LeadU k t n := by
        funext s
        exact propext ((hmore s).trans ⟨fun h => h.elim id (fun h => absurd h (hno s)), .inl⟩)
      rw [e]; exact ih
    unfold upTo
    by_cases hx : nxtN n (t / 2) = t
    · rw [if_pos hx]
      unfold addC
      rcases hl n (by omega) with ⟨e, hnone⟩ | ⟨⟨a1, a2, a3⟩, b, hbest⟩
      · rw [if_pos (by rw [e]; decide)]
        exact hno (fun s ⟨s', c, h1, h2, h3, h4, h5, h6⟩ => hnone s' ⟨h2, h4, h5⟩)
      · rw [if_neg (by rw [b]; omega)]
        have ht2 : t / 2 < 2 := by omega
        refine best_join hmore ih ⟨⟨_, _, rfl, a1, isBit_chB ht2, a2, a3, by rw [bv_chB ht2]; exact hx⟩, ?_, ?_⟩
        · show (l.getD n noP).2 + _ = _
          rw [show (cand (l.getD n noP) n (t / 2) q).1 = (l.getD n noP).1 ++ [chB (t / 2)] from rfl, costT_snoc q _ (by rw [a2, hr]), a3, bv_chB ht2, b]
          omega
        · rintro s ⟨s', c, rfl, h2, h3, h4, h5, h6⟩
          have hc : bv c = t / 2 := by rw [← h6, nxt_half (by omega)]
          have hcc : c = chB (t / 2) := by rw [← hc, chB_bv h3]
          rw [show (cand (l.getD n noP) n (t / 2) q).1 = (l.getD n noP).1 ++ [chB (t / 2)] from rfl, costT_snoc q _ (by rw [a2, hr]), costT_snoc q _ (by rw [h4, hr]), a3, h5, bv_chB ht2, hc, hcc]
          rcases hbest s' ⟨h2, h4, h5⟩ with h | ⟨h, h'⟩
          · exact .inl (by omega)
          · exact .inr ⟨by omega, by rw [bl_append (by rw [h4, a2])]; exact h'⟩
    · rw [if_neg hx]
      refine hno (fun s ⟨s', c, h1, h2, h3, h4, h5, h6⟩ => hx ?_)
      rw [show t / 2 = bv c by rw [← h6, nxt_half (by omega)]]
      exact h6
theorem lead_up {k t : Nat} (s : List UInt8) : LeadU k t 4 s ↔ Lead (k + 1) t s := by
  constructor
  · rintro ⟨s', c, rfl, h2, h3, h4, h5, h6⟩
    exact ⟨by simp [h2, h3], by simp [h4], by rw [endT_snoc]; exact h6⟩
  · rintro ⟨h1, h2, h3⟩
    have hne : s ≠ [] := fun e => by rw [e] at h2; simp at h2
    have hs := (List.dropLast_concat_getLast hne).symm
    rw [hs] at h1 h3
    rw [endT_snoc] at h3
    simp only [List.all_append, List.all_cons, List.all_nil, Bool.and_true, Bool.and_eq_true] at h1
    exact ⟨_, _, hs, h1.1, h1.2, by simp [h2], endT_lt (by omega) _, h3⟩
theorem best_paths (r : List UInt8) : ∀ k, 3 * k ≤ r.length → ∀ t, t < 4 → BestQ (Lead k t) (costT (r.take (3 * k))) ((pathsN r k).getD t noP)
  | 0, _, t, ht => by
    by_cases h0 : t = 0
    · subst h0
      refine .inr ⟨⟨rfl, rfl, rfl⟩, ?_, ?_⟩
      · simp [pathsN, startP, costT, encT, dl]
      · rintro s ⟨h1, h2, h3⟩
        rw [List.length_eq_zero_iff.1 h2]
        exact LeP.refl _ _
    · refine .inl ⟨?_, ?_⟩
      · match t, ht, h0 with
        | 1, _, _ => rfl
        | 2, _, _ => rfl
        | 3, _, _ => rfl
      · rintro s ⟨h1, h2, h3⟩
        rw [List.length_eq_zero_iff.1 h2] at h3
        exact h0 h3.symm
  | k + 1, hk, t, ht => by
    have ih := best_paths r k (by omega)
    have h := best_up (pathsN r k) (r.take (3 * k)) ((r.drop (3 * k)).take 3) k t ht (by simp; omega) ih 4 (by omega)
    have e : r.take (3 * k) ++ (r.drop (3 * k)).take 3 = r.take (3 * (k + 1)) := by
      rw [show 3 * (k + 1) = 3 * k + 3 by omega, List.take_add]
    rw [e] at h
    rw [show LeadU k t 4 = Lead (k + 1) t from funext (fun s => propext (lead_up s))] at h
    rw [pathsN, stepP_at _ _ ht]
    exact h
/-- some bits lead to state 0: zeros -/
theorem lead_zero (k : Nat) : Lead k 0 (List.replicate k 48) := by
  refine ⟨by simp [isBitC], by simp, ?_⟩
  induction k with
  | zero => rfl
  | succ k ih => rw [List.replicate_succ, endT]; exact ih
theorem best_zero (r : List UInt8) (k : Nat) (hk : 3 * k ≤ r.length) : Lead k 0 ((pathsN r k).getD 0 noP).1 ∧ ((pathsN r k).getD 0 noP).2 = (costT (r.take (3 * k)) ((pathsN r k).getD 0 noP).1 : Int) ∧
    ∀ s, Lead k 0 s → LeP (costT (r.take (3 * k)) ((pathsN r k).getD 0 noP).1) ((pathsN r k).getD 0 noP).1 (costT (r.take (3 * k)) s) s := by
  rcases best_paths r k hk 0 (by omega) with ⟨_, hn⟩ | h
  · exact absurd (lead_zero k) (hn _)
  · exact h
/-- bits that end in state 0 end in two zeros -/
theorem lead_tail {n : Nat} {s : List UInt8} (h : Lead (n + 2) 0 s) : s = s.take n ++ [48, 48] := by
  obtain ⟨h1, h2, h3⟩ := h
  have hd : (s.drop n).length = 2 := by simp; omega
  match hs : s.drop n, hd with
  | [c, d], _ =>
    have e : s = s.take n ++ [c, d] := by rw [← hs, List.take_append_drop]
    rw [e, show s.take n ++ [c, d] = (s.take n ++ [c]) ++ [d] by simp, endT_snoc, endT_snoc] at h3
    rw [e] at h1
    simp only [List.all_append, List.all_cons, List.all_nil, Bool.and_true, Bool.and_eq_true] at h1
    have hc : bv c = 0 := by unfold nxtN at h3; omega
    have hdz : bv d = 0 := by unfold nxtN at h3; omega
    have e1 : c = 48 := by rw [← chB_bv h1.2.1, hc]; rfl
    have e2 : d = 48 := by rw [← chB_bv h1.2.2, hdz]; rfl
    rw [e1, e2] at e
    exact e
theorem lead_zeros {n : Nat} {s : List UInt8} (h : s.all isBitC = true) (hl : s.length = n) : Lead (n + 2) 0 (s ++ [48, 48]) := by
  refine ⟨by simp [h, isBitC], by simp [hl], ?_⟩
  rw [endT_append]
  have := endT_lt (by omega : 0 < 4) s
  generalize endT 0 s = q at this
  have e : bv 48 = 0 := by decide
  simp only [endT, e, nxtN]
  omega

/-- encoding, distance, decoding -/
def encOk10 (s : List UInt8) : Bool := bitsOk s 30
def encR10 (s : List UInt8) : List UInt8 := if encOk10 s = true then encT 0 (s ++ [48, 48]) else []
def dstOk (a b : List UInt8) : Bool := bitsOk a 96 && (bitsOk b 96 && decide (a.length = b.length))
def dstR (a b : List UInt8) : Int := if dstOk a b = true then (dl a b : Int) else 0
def cosOk (s r : List UInt8) : Bool := encOk10 s && dstOk (encR10 s) r
def cosR (s r : List UInt8) : Int := if cosOk s r = true then (dl (encR10 s) r : Int) else 0
def recOk (r : List UInt8) : Bool := bitsOk r 96 && (decide (r.length % 3 = 0) && decide (6 ≤ r.length))
def bstR (r : List UInt8) : List Pt := if recOk r = true then pathsN r (r.length / 3 - 2) else []
def dcdR (r : List UInt8) : Pt := if recOk r = true then (((pathsN r (r.length / 3)).getD 0 noP).1.take (r.length / 3 - 2), ((pathsN r (r.length / 3)).getD 0 noP).2) else ([], 0)

theorem bitsOk_b {s : List UInt8} {m : Nat} (h : bitsOk s m = true) : s.length ≤ m ∧ s.all isBitC = true := by
  simpa [bitsOk] using h
theorem encT_bits (st : Nat) (hst : st < 4) (s : List UInt8) : (encT st s).all isBitC = true := by
  induction s generalizing st with
  | nil => rfl
  | cons c s ih =>
    have key : ∀ u, u < 4 → ∀ b, b < 2 → (outN u b).all isBitC = true := by decide +kernel
    simp only [encT, List.all_append, Bool.and_eq_true]
    exact ⟨key st hst _ (bv_lt c), ih _ (nxtN_lt hst (bv_lt c))⟩
theorem encR10_yes {s : List UInt8} (h : encOk10 s = true) : encR10 s = encT 0 (s ++ [48, 48]) := if_pos h
theorem encR10_no {s : List UInt8} (h : encOk10 s = false) : encR10 s = [] := if_neg (by rw [h]; decide)
theorem encR10_len {s : List UInt8} (h : encOk10 s = true) : (encR10 s).length = 3 * (s.length + 2) := by rw [encR10_yes h]; simp
theorem encR10_bits {s : List UInt8} (h : encOk10 s = true) : bitsOk (encR10 s) 96 = true := by
  have := (bitsOk_b h).1
  simp only [bitsOk, Bool.and_eq_true, decide_eq_true_eq]
  exact ⟨by rw [encR10_len h]; omega, by rw [encR10_yes h]; exact encT_bits 0 (by omega) _⟩
theorem recOk_b {r : List UInt8} (h : recOk r = true) : bitsOk r 96 = true ∧ ∃ n, r.length = 3 * (n + 2) ∧ n ≤ 30 ∧ r.length / 3 = n + 2 := by
  simp only [recOk, Bool.and_eq_true, decide_eq_true_eq] at h
  have := (bitsOk_b h.1).1
  exact ⟨h.1, r.length / 3 - 2, by omega, by omega, by omega⟩

/-- what is decoded, with its cost, and that no other bits are better -/
theorem dcd_best {r : List UInt8} {n : Nat} (h : recOk r = true) (hn : r.length = 3 * (n + 2)) (h30 : n ≤ 30) :
    (dcdR r).1.length = n ∧ (dcdR r).1.all isBitC = true ∧ (dcdR r).2 = (dl (encR10 (dcdR r).1) r : Int) ∧
    ∀ s, s.all isBitC = true → s.length = n → LeP (dl (encR10 (dcdR r).1) r) (dcdR r).1 (dl (encR10 s) r) s := by
  have h3 : r.length / 3 = n + 2 := by omega
  have hb := best_zero r (n + 2) (by omega)
  rw [List.take_of_length_le (by omega)] at hb
  have hd : dcdR r = (((pathsN r (n + 2)).getD 0 noP).1.take n, ((pathsN r (n + 2)).getD 0 noP).2) := by
    unfold dcdR; rw [if_pos h, h3]; rfl
  rw [hd]
  generalize (pathsN r (n + 2)).getD 0 noP = p at hb ⊢
  obtain ⟨hl, hc, hbest⟩ := hb
  have ht := lead_tail hl
  have hlen : (p.1.take n).length = n := by simp [hl.2.1]
  have hbits : (p.1.take n).all isBitC = true := by
    have := hl.1
    rw [ht] at this
    simp only [List.all_append, Bool.and_eq_true] at this
    exact this.1
  have hok : encOk10 (p.1.take n) = true := by simp only [encOk10, bitsOk, Bool.and_eq_true, decide_eq_true_eq]; exact ⟨by omega, hbits⟩
  have hcost : dl (encR10 (p.1.take n)) r = costT r p.1 := by rw [encR10_yes hok, ← ht]; rfl
  refine ⟨hlen, hbits, by rw [hcost]; exact hc, fun s hs hsl => ?_⟩
  have hok2 : encOk10 s = true := by simp only [encOk10, bitsOk, Bool.and_eq_true, decide_eq_true_eq]; exact ⟨by omega, hs⟩
  have := hbest _ (lead_zeros hs hsl)
  rw [hcost, encR10_yes hok2]
  rw [ht] at this
  rw [← ht] at this
  rcases this with h | ⟨h, h'⟩
  · exact .inl h
  · refine .inr ⟨h, ?_⟩
    rw [ht, bl_append (by rw [hsl, hlen])] at h'
    exact h'
/-- few errors are corrected: by the free distance -/
theorem dcd_free {s r : List UInt8} (hs : encOk10 s = true) (hr : r.length = (encR10 s).length) (hrb : r.all isBitC = true) (hd : dl (encR10 s) r ≤ 3) : dcdR r = (s, (dl (encR10 s) r : Int)) ∧ recOk r = true := by
  have hsb := bitsOk_b hs
  have hrl : r.length = 3 * (s.length + 2) := by rw [hr, encR10_len hs]
  have hok : recOk r = true := by
    simp only [recOk, bitsOk, Bool.and_eq_true, decide_eq_true_eq]
    exact ⟨⟨by omega, hrb⟩, by omega, by omega⟩
  obtain ⟨h1, h2, h3, h4⟩ := dcd_best hok hrl hsb.1
  have hp := h4 s hsb.2 rfl
  have hcost : dl (encR10 (dcdR r).1) r ≤ dl (encR10 s) r := by rcases hp with h | ⟨h, _⟩ <;> omega
  have hok2 : encOk10 (dcdR r).1 = true := by simp only [encOk10, bitsOk, Bool.and_eq_true, decide_eq_true_eq]; exact ⟨by omega, h2⟩
  have heq : (dcdR r).1 = s := by
    apply Classical.byContradiction
    intro hne
    have l1 := lead_zeros h2 h1
    have l2 := lead_zeros hsb.2 rfl
    have h7 := far_seven ((dcdR r).1 ++ [48, 48]) (s ++ [48, 48]) 0 (by simp [h1]) l1.1 l2.1 (fun e => hne (List.append_cancel_right e)) (by omega) (l1.2.2.trans l2.2.2.symm)
    rw [← encR10_yes hok2, ← encR10_yes hs] at h7
    have tri := dl_tri (a := encR10 (dcdR r).1) (b := r) (c := encR10 s) (by rw [encR10_len hok2, hrl, h1]) hr
    have := dl_comm r (encR10 s)
    omega
  refine ⟨Prod.ext heq ?_, hok⟩
  rw [heq] at h3
  exact h3
end G294

/- Chapter 11: the order of texts, rotations, and lists of numbers in the order of a text's rotations (mathematics). -/
namespace G294
open Go Go.RowKit
/-- the order of texts -/
def lessT (a b : List UInt8) : Bool := Op.bytesLess a b
theorem lessT_irr : ∀ a : List UInt8, lessT a a = false
  | [] => rfl
  | x :: a => by
    have := lessT_irr a
    unfold lessT at this ⊢
    simp [Op.bytesLess, this]
theorem lessT_trans : ∀ {a b c : List UInt8}, lessT a b = true → lessT b c = true → lessT a c = true
  | _, b, [], _, h => by unfold lessT at h; cases b <;> simp [Op.bytesLess] at h
  | [], _, _ :: _, _, _ => rfl
  | _ :: _, [], _ :: _, h, _ => by unfold lessT at h; simp [Op.bytesLess] at h
  | x :: a, y :: b, z :: c, h1, h2 => by
    have ih := @lessT_trans a b c
    unfold lessT at h1 h2 ih ⊢
    simp only [Op.bytesLess, Bool.or_eq_true, Bool.and_eq_true, decide_eq_true_eq, beq_iff_eq] at h1 h2 ⊢
    simp only [UInt8.lt_iff_toNat_lt, ← UInt8.toNat_inj] at h1 h2 ⊢
    rcases h1 with h1 | ⟨h1, h3⟩ <;> rcases h2 with h2 | ⟨h2, h4⟩
    · left; omega
    · left; omega
    · left; omega
    · right; exact ⟨by omega, ih h3 h4⟩
theorem lessT_tri : ∀ {a b : List UInt8}, lessT a b = false → lessT b a = false → a = b
  | [], [], _, _ => rfl
  | [], _ :: _, h, _ => by unfold lessT at h; simp [Op.bytesLess] at h
  | _ :: _, [], _, h => by unfold lessT at h; simp [Op.bytesLess] at h
  | x :: a, y :: b, h1, h2 => by
    have ih := @lessT_tri a b
    unfold lessT at h1 h2 ih
    simp only [Op.bytesLess, Bool.or_eq_false_iff, Bool.and_eq_false_iff, decide_eq_false_iff_not, beq_eq_false_iff_ne, ne_eq] at h1 h2
    simp only [UInt8.lt_iff_toNat_lt] at h1 h2
    have e : x = y := by rw [← UInt8.toNat_inj]; omega
    subst e
    rw [ih (by simpa using h1.2) (by simpa using h2.2)]
theorem cmp_less : ∀ a b : List UInt8, decide (Lib.compareBytes a b < 0) = lessT a b
  | [], [] => rfl
  | [], _ :: _ => rfl
  | _ :: _, [] => rfl
  | x :: a, y :: b => by
    have ih := cmp_less a b
    unfold lessT at ih ⊢
    unfold Lib.compareBytes Op.bytesLess
    by_cases h1 : x < y
    · simp [h1]
    · by_cases h2 : y < x
      · have : x ≠ y := by rw [UInt8.lt_iff_toNat_lt] at h2; intro e; subst e; omega
        simp [h1, h2, this]
      · have : x = y := by rw [← UInt8.toNat_inj]; simp only [UInt8.lt_iff_toNat_lt] at h1 h2; omega
        subst this
        simp [h1, ih]
/-- the rotation of a text by k -/
def rotL (s : List UInt8) (k : Nat) : List UInt8 := s.drop k ++ s.take k
theorem rotL_len (s : List UInt8) {k : Nat} (h : k ≤ s.length) : (rotL s k).length = s.length := by simp [rotL]; omega
theorem rotL_zero (s : List UInt8) : rotL s 0 = s := by simp [rotL]
/-- the rotation by a is less than that by b, or they are equal and a is less -/
def bef (s : List UInt8) (a b : Nat) : Prop := lessT (rotL s a) (rotL s b) = true ∨ (rotL s a = rotL s b ∧ a < b)
theorem bef_irr (s : List UInt8) (a : Nat) : ¬ bef s a a := by
  rintro (h | h)
  · rw [lessT_irr] at h; cases h
  · omega
theorem bef_trans {s : List UInt8} {a b c : Nat} (h1 : bef s a b) (h2 : bef s b c) : bef s a c := by
  rcases h1 with h1 | ⟨h1, h3⟩ <;> rcases h2 with h2 | ⟨h2, h4⟩
  · exact .inl (lessT_trans h1 h2)
  · exact .inl (h2 ▸ h1)
  · exact .inl (h1 ▸ h2)
  · exact .inr ⟨h1.trans h2, by omega⟩
theorem bef_asym {s : List UInt8} {a b : Nat} (h1 : bef s a b) : ¬ bef s b a := fun h2 => bef_irr s a (bef_trans h1 h2)
theorem bef_tri (s : List UInt8) {a b : Nat} (h1 : ¬ bef s a b) (h2 : ¬ bef s b a) : a = b := by
  by_cases ha : lessT (rotL s a) (rotL s b) = true
  · exact absurd (.inl ha) h1
  · by_cases hb : lessT (rotL s b) (rotL s a) = true
    · exact absurd (.inl hb) h2
    · have e : rotL s a = rotL s b := lessT_tri (by simpa using ha) (by simpa using hb)
      rcases Nat.lt_trichotomy a b with h | h | h
      · exact absurd (.inr ⟨e, h⟩) h1
      · exact h
      · exact absurd (.inr ⟨e.symm, h⟩) h2
/-- of two places the later one is before the earlier one just where its rotation is less -/
theorem bef_back {s : List UInt8} {a b : Nat} (h : a < b) : bef s b a ↔ lessT (rotL s b) (rotL s a) = true :=
  ⟨fun h' => h'.elim id (fun h2 => by omega), .inl⟩
theorem bef_fore {s : List UInt8} {a b : Nat} (h : a < b) : bef s a b ↔ lessT (rotL s b) (rotL s a) = false := by
  constructor
  · intro h1
    cases hb : lessT (rotL s b) (rotL s a) with
    | false => rfl
    | true => exact absurd (.inl hb) (bef_asym h1)
  · intro h1
    by_cases h2 : lessT (rotL s a) (rotL s b) = true
    · exact .inl h2
    · exact .inr ⟨lessT_tri (by simpa using h2) h1, h⟩
instance (s : List UInt8) (a b : Nat) : Decidable (bef s a b) := by unfold bef; exact inferInstance
/-- the first m numbers in the order of the rotations of a text -/
def trnN (s : List UInt8) (m : Nat) : List Nat := (List.range m).mergeSort fun a b => decide (¬ bef s b a)
def trn (s : List UInt8) : List Nat := trnN s s.length
theorem trnN_perm (s : List UInt8) (m : Nat) : (trnN s m).Perm (List.range m) := List.mergeSort_perm _ _
theorem trnN_len (s : List UInt8) (m : Nat) : (trnN s m).length = m := by rw [(trnN_perm s m).length_eq, List.length_range]
theorem trn_len (s : List UInt8) : (trn s).length = s.length := trnN_len s _
theorem trnN_mem {s : List UInt8} {m x : Nat} : x ∈ trnN s m ↔ x < m := by rw [(trnN_perm s m).mem_iff, List.mem_range]
theorem trnN_sorted (s : List UInt8) (m : Nat) : (trnN s m).Pairwise (bef s) := by
  have h1 : (trnN s m).Pairwise fun a b => decide (¬ bef s b a) = true := List.pairwise_mergeSort (fun a b c h1 h2 => by
    simp only [decide_eq_true_eq] at h1 h2 ⊢
    intro h3
    by_cases e : a = b
    · subst e; exact h2 h3
    · by_cases h4 : bef s a b
      · exact h2 (bef_trans h3 h4)
      · exact e (bef_tri s h4 h1)) (fun a b => by
    simp only [Bool.or_eq_true, decide_eq_true_eq]
    by_cases h : bef s b a
    · exact .inr (bef_asym h)
    · exact .inl h) _
  have h2 : (trnN s m).Pairwise (· ≠ ·) := (trnN_perm s m).nodup_iff.2 List.nodup_range
  refine (h1.and h2).imp fun {a b} ⟨h3, h4⟩ => ?_
  simp only [decide_eq_true_eq] at h3
  by_cases h5 : bef s a b
  · exact h5
  · exact absurd (bef_tri s h5 h3) h4
/-- there is one such list -/
theorem trnN_only {s : List UInt8} {m : Nat} {l : List Nat} (h1 : l.Pairwise (bef s)) (h2 : l.Perm (List.range m)) : l = trnN s m :=
  List.Perm.eq_of_pairwise (le := bef s) (fun a b _ _ h3 h4 => absurd h4 (bef_asym h3)) h1 (trnN_sorted s m) (h2.trans (trnN_perm s m).symm)
/-- one more number is put behind those that are before it -/
theorem trnN_next {s : List UInt8} {m k : Nat} (hk : k ≤ m) (h1 : ∀ j, j < k → bef s ((trnN s m).getD j 0) m) (h2 : k < m → bef s m ((trnN s m).getD k 0)) :
    (trnN s m).take k ++ m :: (trnN s m).drop k = trnN s (m + 1) := by
  have hs := trnN_sorted s m
  have hl := trnN_len s m
  have hp := trnN_perm s m
  generalize trnN s m = l at *
  have hs' := hs
  rw [← List.take_append_drop k l, List.pairwise_append] at hs'
  obtain ⟨ha, hb, hab⟩ := hs'
  refine trnN_only (List.pairwise_append.2 ⟨ha, List.pairwise_cons.2 ⟨?_, hb⟩, ?_⟩) ?_
  · intro x hx
    by_cases hkm : k < m
    · have e : l.drop k = l[k]'(by omega) :: l.drop (k + 1) := List.drop_eq_getElem_cons (by omega)
      have h3 := h2 hkm
      have e2 : l.getD k 0 = l[k]'(by omega) := by simp [List.getD, show k < l.length by omega]
      rw [e2] at h3
      rw [e] at hx hb
      rcases List.mem_cons.1 hx with rfl | hx
      · exact h3
      · exact bef_trans h3 ((List.pairwise_cons.1 hb).1 x hx)
    · rw [List.drop_eq_nil_of_le (by omega)] at hx; cases hx
  · intro a hat b hbt
    rcases List.mem_cons.1 hbt with rfl | hbt
    · obtain ⟨i, hi, rfl⟩ := List.mem_iff_getElem.1 hat
      rw [List.length_take] at hi
      have h3 := h1 i (by omega)
      rw [List.getElem_take]
      simpa [List.getD, show i < l.length by omega] using h3
    · exact hab a hat b hbt
  · refine List.perm_middle.trans ?_
    rw [List.take_append_drop, List.range_succ]
    exact (List.Perm.cons m hp).trans (List.perm_append_comm (l₁ := [m]))
theorem perm_of_sub : ∀ {l r : List Nat}, l.Nodup → (∀ x ∈ l, x ∈ r) → r.length ≤ l.length → l.Perm r
  | [], r, _, _, h => by
    have : r = [] := List.eq_nil_of_length_eq_zero (by simpa using h)
    subst this; exact List.Perm.refl _
  | a :: l, r, hn, hs, h => by
    have ha := hs a (List.mem_cons_self ..)
    have hp := List.perm_cons_erase ha
    have hn' := List.nodup_cons.1 hn
    have hl : (r.erase a).length + 1 = r.length := by have := hp.length_eq; simpa using this.symm
    refine List.Perm.trans (List.Perm.cons a (perm_of_sub hn'.2 (fun x hx => ?_) (by simp at h; omega))) hp.symm
    have hne : x ≠ a := fun e => hn'.1 (e ▸ hx)
    exact (List.mem_erase_of_ne hne).2 (hs x (List.mem_cons_of_mem _ hx))
/-- numbers that are in order and all less than m are the list -/
theorem trnN_of_fun {s : List UInt8} {m : Nat} {f : Nat → Nat} (h1 : ∀ i j, i < j → j < m → bef s (f i) (f j)) (h2 : ∀ i, i < m → f i < m) : (List.range m).map f = trnN s m := by
  have hpw : ((List.range m).map f).Pairwise (bef s) := by
    rw [List.pairwise_map]
    have h3 : (List.range m).Pairwise fun i j => i < j ∧ j < m := by
      have := List.pairwise_lt_range (n := m)
      refine List.Pairwise.imp_of_mem (fun {a b} ha hb h => ?_) this
      exact ⟨h, List.mem_range.1 hb⟩
    exact h3.imp fun ⟨a, b⟩ => h1 _ _ a b
  refine trnN_only hpw ?_
  have hnd : ((List.range m).map f).Nodup := hpw.imp fun {a b} h e => by subst e; exact bef_irr s a h
  refine perm_of_sub hnd ?_ (by simp)
  intro x hx
  obtain ⟨i, hi, rfl⟩ := List.mem_map.1 hx
  exact List.mem_range.2 (h2 i (List.mem_range.1 hi))
end G294
