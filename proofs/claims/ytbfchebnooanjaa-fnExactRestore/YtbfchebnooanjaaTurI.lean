/- Chapter 11: TurnsOf, the program's; small callees. -/
import Derived.Test.YtbfchebnooanjaaStbAll
import Derived.Test.YtbfchebnooanjaaStrWalks
set_option linter.unusedSimpArgs false
set_option linter.unusedVariables false
namespace G294
open Go Go.RowKit
def natI (l : List Nat) : List Int := l.map fun k => ((k : Nat) : Int)
@[simp] theorem natI_len (l : List Nat) : (natI l).length = l.length := by simp [natI]
def trnOk (s : List UInt8) : Bool := decide (s.length ≤ 120)
def trnR (s : List UInt8) : List Int := if trnOk s = true then natI (trn s) else []
theorem trnR_no {s : List UInt8} (h : trnOk s = false) : trnR s = [] := if_neg (by rw [h]; decide)
theorem trnR_yes {s : List UInt8} (h : trnOk s = true) : trnR s = natI (trn s) := if_pos h
theorem lstF_trn {s : List UInt8} {f : Nat → Nat} (h1 : ∀ p q, p < q → q < s.length → bef s (f p) (f q)) (h2 : ∀ p, p < s.length → f p < s.length) : lstF s.length f = natI (trn s) := by
  unfold trn
  rw [← trnN_of_fun h1 h2]
  simp [lstF, natI]
theorem OwnInts.widen {E : TypeId} {w : World} {lo hi : Nat} {v : Value} {l : List Int} (h : OwnInts E w lo hi v l) : OwnInts E w lo w.heap.size v l :=
  ⟨h.1, Nat.le_refl _, fun g hg => by have := h.2.2 g hg; have := h.2.1; omega⟩
end G294
namespace Go.Proofs.Ytbfchebnooanjaa
open Go.RowKit G294

set_option maxHeartbeats 400000 in
theorem goodTurnText_any (s : List UInt8) (w : World) (hs : s.length ≤ 1000000000000) : Calls Try.prog 41 #[.string (str s)] w fun e w' => e = .returned (.bool (trnOk s)) ∧ w = w' := by
  have hsz : (str s).size = s.length := str_size s
  have HD : Hid (trnOk s = decide (s.length ≤ 120)) := Lib.hid rfl
  generalize s.length = n at *
  go_enter Try.func41, Try.ntmps41
  go_wp2_with fail
  go_ret
  exact ⟨by rw [HD.out]; by_cases h : n ≤ 120 <;> simp [h] <;> omega, rfl⟩

set_option maxRecDepth 100000 in
set_option maxHeartbeats 2000000 in
theorem turnsOf_own (s : List UInt8) (w : World) (hs : s.length ≤ 1000000000000) : Calls Try.prog 17 #[.string (str s)] w (RetIntsOk 3 w (trnR s) (trnOk s)) := by
  obtain ⟨i0, hi0, hz0, hz1, hz2⟩ := info_parts infoInt
  have hsz : (str s).size = s.length := str_size s
  have HG := Lib.hid (fun W => goodTurnText_any s W hs)
  by_cases h : trnOk s = true
  · have HO := Lib.hid h
    have HR := Lib.hid (trnR_yes h)
    have hn : s.length ≤ 120 := by simpa [trnOk] using h
    have HA : Hid (str s ++ str s = str (s ++ s)) := str_append s s
    have HCMP := Lib.hid (fun Bd B W hB hne hv => turnsCmp_at s Bd B W (by omega) hB hne hv)
    have HSRT := Lib.hid (fun B cp g lb W hr eg hc => sortStable_own B s.length cp g lb s W hr eg hc hn)
    have HTR := Lib.hid (fun (f : Nat → Nat) (h1 : ∀ p q, p < q → q < s.length → bef s (f p) (f q)) (h2 : ∀ p, p < s.length → f p < s.length) => lstF_trn h1 h2)
    have eg := enters_of Try.func43 (by kernel_rfl) rfl
    rw [HR.out]
    clear h
    generalize hnn : s.length = n at *
    have HN := Lib.hid hnn
    clear hnn
    go_enter Try.func17, Try.ntmps17
    go_wp2_with fail
    refine (HG.out _).mono ?_
    rintro e w' ⟨rfl, rfl⟩
    rw [HO.out]
    go_wp2_with (at_make; refine wpList_make_full _ rfl _ _ _ rfl w.heap.size _ i0 _ 1 Try.underlying28 hi0 hz0 hz1 _ _ _ _ n rfl rfl rfl rfl ?b2 ?b3 ?b4 ?_)
    case b2 => rw [hz2]; omega
    case b3 => unfold maxLen; omega
    case b4 => exact Nat.le_refl _
    intro w1 hown1 hg1
    have HB1 := Lib.hid (below_of_grown hg1 (Nat.le_refl _) (by simp))
    rw [toList_madeCells_one] at hown1
    have HR0 : Hid (RowF 3 w1 w1 w.heap.size n n (fun k => if k < 0 then k else 0)) := by
      refine RowF.start ⟨?_, by have := (hown1.lt w.heap.size rfl).2; omega, fun g hg => by
        have e : w.heap.size = g := by simpa [Value.ownBlock] using hg
        omega⟩
      rw [lstF_len]
      have e : ints (lstF n (fun k => if k < 0 then k else 0)) = List.replicate n (.int .i64 0) := by
        apply List.ext_getElem
        · simp
        · intro i h1 h2; simp [ints, lstF]
      rw [e]; exact hown1
    clear hg1 hown1
    have hBB := HR0.out.lt
    generalize hB : w.heap.size = B at *
    have HBB := Lib.hid hB
    clear hB
    go_wp2_with fail
    go_loopw [15] (fun i wr => ∃ k : Nat, k ≤ n ∧ i = .int .i64 k ∧ Hid (RowF 3 w1 wr B n n (fun j => if j < k then j else 0))) (fun i _ => n - (intOf i).toNat)
    case atStart => exact ⟨0, Nat.zero_le _, rfl, HR0⟩
    case round =>
      obtain ⟨k, hk, rfl, HF⟩ := hrel
      clear HR0
      by_cases hlt : k < n
      · have hki : (k : Int) < (n : Int) := by omega
        have c1 := HF.out.cell hlt
        have f1 := HF.out.frozen k
        have HST := Lib.hid ((HF.out.store (i := k) (x := k)).congr (f' := fun j => if j < k + 1 then j else 0) (by
          funext j; simp only [upd]
          repeat' split
          all_goals first | omega | rfl))
        clear HF
        go_wp2_with fail
        go_roundw
        case rel => exact ⟨k + 1, by omega, by go_num, HST⟩
        case measure => simp [intOf]; omega
      · obtain rfl : k = n := by omega
        have hki : ¬ (k : Int) < (k : Int) := by omega
        have hwr := HF.out.lt
        have HOW : Hid (OwnInts 3 wr B (B + 1) (.slice (some ⟨B, 0, none⟩) k k) (lstF k id)) := by
          have e : lstF k (fun j => if j < k then j else 0) = lstF k id := by
            apply List.ext_getElem
            · simp
            · intro i h1 h2
              have h3 : i < k := by simpa using h1
              simp [lstF, h3]
          have := HF.out.own
          rw [e] at this; exact this
        have HTU := Lib.hid HF.out.turn
        clear HF
        go_wp2_with fail
        have HOW2 := Lib.hid (HOW.out.keep (turn_alloc wr (.cells #[.string (str s ++ str s)] 9)) (by omega))
        have HTU2 := Lib.hid (turn_trans HTU.out (turn_alloc wr (.cells #[.string (str s ++ str s)] 9)) (by omega))
        have HC := Lib.hid (HCMP.out wr.heap.size B (wr.alloc (.cells #[.string (str s ++ str s)] 9)) (by simp) (by omega) (by rw [HA.out]; simp))
        generalize wr.alloc (.cells #[.string (str s ++ str s)] 9) = wv at *
        go_wp2_with fail
        refine (HSRT.out B k _ _ wv HOW2.out eg HC.out).mono ?_
        rintro e w5 ⟨rfl, f, hRF, h1, h2⟩
        have HFin : Hid (OwnInts 3 w5 w.heap.size w5.heap.size (.slice (some ⟨B, 0, none⟩) k k) (natI (trn s))) := by
          have := hRF.own.widen
          rw [HTR.out f h1 h2] at this
          rw [HBB.out]; exact this
        have HT5 : Hid (TurnIn 0 0 w w5) := TurnIn.of_below (by
          have t := turn_trans HTU2.out hRF.turn (by omega)
          have hb := HB1.out
          rw [HBB.out]
          exact t.base hb (by omega) (by omega))
        clear hRF h1 h2
        go_wp2_with fail
        go_ret2
        exact ⟨_, by rw [HO.out]; rfl, HFin.out, HT5.out⟩
  · have HO : Hid (trnOk s = false) := by show trnOk s = false; simpa using h
    have HR := Lib.hid (trnR_no HO.out)
    clear h
    go_enter Try.func17, Try.ntmps17
    go_wp2_with fail
    refine (HG.out _).mono ?_
    rintro e w' ⟨rfl, rfl⟩
    rw [HO.out]
    go_wp2_with fail
    go_ret2
    exact ⟨_, by rw [HO.out]; rfl, by rw [HR.out]; exact OwnInts.nil _ _ _, TurnIn.refl _⟩
end Go.Proofs.Ytbfchebnooanjaa
