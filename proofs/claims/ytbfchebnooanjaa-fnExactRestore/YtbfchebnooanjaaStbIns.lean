/- Chapter 11: the insertion sort of a block. -/
import Derived.Test.YtbfchebnooanjaaStbRot
set_option linter.unusedSimpArgs false
set_option linter.unusedVariables false
namespace Go.Proofs.Ytbfchebnooanjaa
open Go.RowKit G294

set_option maxRecDepth 100000 in
set_option maxHeartbeats 4000000 in
theorem insSort_own (B N cp n a b g : Nat) (lb : Array Value) (s : List UInt8) (f0 : Nat → Nat) (w : World) (hr : OwnInts 3 w B (B + 1) (.slice (some ⟨B, 0, none⟩) N cp) (lstF N f0))
    (eg : ∀ args w, (callFunc g args).run Try.prog w = .ok (.enter g args) w) (hc : CmpAt Try.prog g lb B n s w) (hab : a ≤ b) (hbN : b ≤ N) (hN : N ≤ 1000) (hn : ∀ p, p < N → f0 p < n) (hup : ∀ p q, a ≤ p → p < q → q < b → f0 p < f0 q) :
    Calls Try.prog 65 #[.slice (some ⟨B, 0, none⟩) N cp, .int .i64 a, .int .i64 b, .func (.func g) #[] lb] w fun e w' => e = .returned (.tuple #[]) ∧ ∃ f, RowF 3 w w' B N cp f ∧ Srt (bef s) f0 f a b := by
  have HR0 := Lib.hid (RowF.start hr)
  have HC0 := Lib.hid hc
  have HUP := Lib.hid hup
  have HN := Lib.hid hn
  clear hr hc hup hn
  have HS0 : Hid (Srt (bef s) f0 f0 a (a + 1)) := Lib.hid (Srt.triv fun p q h1 h2 h3 => by omega)
  have HSZ : Hid (b ≤ a + 1 → Srt (bef s) f0 f0 a b) := fun e => Srt.triv fun p q h1 h2 h3 => by omega
  go_enter Try.func65, Try.ntmps65
  go_wp2_with fail
  go_loopw [8] (fun x wr => ∃ i : Nat, a + 1 ≤ i ∧ i ≤ b + 1 ∧ x = .int .i64 i ∧ ∃ f, Hid (RowF 3 w wr B N cp f) ∧ Hid (Srt (bef s) f0 f a i) ∧ Hid (i ≤ b ∨ (i = a + 1 ∧ f = f0)))
    (fun x _ => b + 1 - (intOf x).toNat)
  case atStart => exact ⟨a + 1, Nat.le_refl _, by omega, rfl, f0, HR0, HS0, Lib.hid (.inr ⟨rfl, rfl⟩)⟩
  case round =>
    obtain ⟨i, hai, hib, rfl, f, HR, HS, HB⟩ := hrel
    by_cases hlt : i < b
    · have hki : (i : Int) < (b : Int) := by omega
      have HG0 := Lib.hid (Going.start (R := bef s) (by omega) HS.out fun p q h1 h2 h3 => HUP.out p q h1 h2 (by omega))
      have HRO := HR
      have HB2 := HB
      clear HR HB HS0 HR0
      go_wp2_with fail
      go_loopw [9] (fun x wq => ∃ j : Nat, x = .int .i64 j ∧ ∃ f', Hid (RowF 3 w wq B N cp f') ∧ Hid (Going (bef s) f0 f' a i j)) (fun x _ => (intOf x).toNat)
      case atStart => exact ⟨i, rfl, f, HRO, HG0⟩
      case round =>
        clear HRO HG0
        obtain ⟨j, rfl, f', HR, HG⟩ := hrel
        have hji := HG.out.ji
        have haj := HG.out.aj
        by_cases hja : a < j
        · obtain ⟨q, rfl⟩ : ∃ q, j = q + 1 := ⟨j - 1, by omega⟩
          have hgt : (a : Int) < ((q + 1 : Nat) : Int) := by omega
          have hgt2 : (a : Int) < (q : Int) + 1 := by omega
          have c1 := HR.out.cell (show q + 1 < N by omega)
          have c2 := HR.out.cell (show q < N by omega)
          have HF1 := Lib.hid (HR.out.frozen (q + 1))
          have HF2 := Lib.hid (HR.out.frozen q)
          have HSW := Lib.hid (HR.out.swap (q + 1) q)
          have HLT := Lib.hid (HG.out.top q (by omega) (by omega) (by omega))
          have HV : Hid (f' (q + 1) < n ∧ f' q < n) := by
            obtain ⟨p1, h1, h2, h3⟩ := HG.out.src (q + 1) (by omega) (by omega)
            obtain ⟨p2, h4, h5, h6⟩ := HG.out.src q (by omega) (by omega)
            exact ⟨by rw [h3]; exact HN.out _ (by omega), by rw [h6]; exact HN.out _ (by omega)⟩
          have HC := Lib.hid (fun k => HC0.out (wr.drewN k) (f' (q + 1)) (f' q) (turn_trans HR.out.turn (turn_drewN wr k) (by omega)) HV.out.1 HV.out.2)
          have HD : Hid (cmpZ s (f' (q + 1)) (f' q) < 0 → Going (bef s) f0 (swp f' (q + 1) q) a i q) := fun h => HG.out.down bef_trans (by omega) ((bef_back HLT.out).2 ((cmpZ_lt _ _ _).1 h))
          have HT : Hid (¬ cmpZ s (f' (q + 1)) (f' q) < 0 → Srt (bef s) f0 f' a (i + 1)) := fun h => HG.out.stop bef_trans (fun _ => (bef_fore HLT.out).2 (cmpZ_ge h))
          have HRQ := Lib.hid (fun k => HR.out.drewN k)
          generalize cmpZ s (f' (q + 1)) (f' q) = z at *
          generalize hxx : f' (q + 1) = x at *
          generalize hyy : f' q = y at *
          have hxy1 := Lib.hid hxx
          have hxy2 := Lib.hid hyy
          clear hxx hyy HR HG HLT HV hgt
          by_cases hz : z < 0
          · have HD2 := Lib.hid (HD.out hz)
            clear HD HT
            go_wp2_with fail
            go_quiet ((go_at_fn g; exact quietC (HC.out _)))
            have c1' : (wr.drewN nq).cell? ⟨B, q + 1, none⟩ = some (.int .i64 (x : Int)) := c1
            have c2' : (wr.drewN nq).cell? ⟨B, q, none⟩ = some (.int .i64 (y : Int)) := c2
            have f1' : (wr.drewN nq).frozen? ⟨B, q + 1, none⟩ = false := HF1.out
            have f2' : (wr.drewN nq).frozen? ⟨B, q, none⟩ = false := HF2.out
            have HSW2 := Lib.hid (RowF.swapAt (HRQ.out nq) hxy1.out hxy2.out)
            clear c1 c2 HF1 HF2 HSW HRQ HC
            generalize wr.drewN nq = wz at *
            go_wp2_with fail
            go_region
            go_wp2_with fail
            go_roundw
            case rel => exact ⟨q, by go_num, _, Lib.hid (HSW2.out.drewN 1), HD2⟩
            case measure => simp [intOf] <;> omega
          · have HT2 := Lib.hid (HT.out hz)
            clear HD HT
            go_wp2_with fail
            go_quiet ((go_at_fn g; exact quietC (HC.out _)))
            go_wp2_with fail
            go_roundw
            case rel => exact ⟨i + 1, by omega, by omega, by go_num, _, HRQ.out _, HT2, Lib.hid (.inl (by omega))⟩
            case measure => simp [intOf]; omega
        · obtain rfl : j = a := by omega
          have hgt : ¬ (j : Int) < (j : Int) := by omega
          have hgd : decide ((j : Int) < (j : Int)) = false := by simp
          have HT2 := Lib.hid (Going.stop (R := bef s) bef_trans HG.out fun h => absurd h (Nat.lt_irrefl _))
          have HRQ := Lib.hid (fun k => HR.out.drewN k)
          clear HR HG
          go_wp2_with fail
          go_quiet (fail)
          go_wp2_with fail
          go_roundw
          case rel => exact ⟨i + 1, by omega, by omega, by go_num, _, HRQ.out _, HT2, Lib.hid (.inl (by omega))⟩
          case measure => simp [intOf]; omega
    · have hki : ¬ (i : Int) < (b : Int) := by omega
      have HE : Hid (Srt (bef s) f0 f a b) := by
        show Srt _ _ _ _ _
        rcases HB.out with h | ⟨h, rfl⟩
        · have : i = b := by omega
          exact this ▸ HS.out
        · have e : b ≤ a + 1 := by omega
          exact HSZ.out e
      clear HB HSZ HS HS0
      go_wp2_with fail
      go_end0
      exact ⟨rfl, f, HR.out, HE.out⟩
end Go.Proofs.Ytbfchebnooanjaa
