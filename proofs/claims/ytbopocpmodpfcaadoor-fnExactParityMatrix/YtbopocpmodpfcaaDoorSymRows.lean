/- symmetricRows and MessageOf, the program's. -/
import Derived.Deep.RegionHeld3
import Derived.BigRegion
import Derived.Test.YtbopocpmodpfcaaDoorMsgMath
import Derived.Test.YtbopocpmodpfcaaDoorNewGrid
import Derived.Test.YtbopocpmodpfcaaDoorFill2
import Derived.Test.YtbopocpmodpfcaaDoorMsr
import Derived.Test.YtbopocpmodpfcaaDoorCodeM
set_option linter.unusedSimpArgs false
set_option linter.unusedVariables false
namespace G294
open Go Go.RowKit
/-- a grid of the call's own, filled in place -/
structure Grid (E EE : TypeId) (w wr : World) (hi : Nat) (v : Value) (L : Mat) (vs : List Value) : Prop where
  own : OwnM E EE wr w.heap.size hi v L vs
  old : Below w.heap.size w wr
theorem Grid.congr {E EE : TypeId} {w wr : World} {hi : Nat} {v : Value} {L L' : Mat} {vs : List Value} (h : Grid E EE w wr hi v L vs) (e : L = L') : Grid E EE w wr hi v L' vs := e ▸ h
theorem Grid.drewN {E EE : TypeId} {w wr : World} {hi : Nat} {v : Value} {L : Mat} {vs : List Value} (h : Grid E EE w wr hi v L vs) (q : Nat) : Grid E EE w (wr.drewN q) hi v L vs := ⟨h.own.drewN q, below_drewN h.old q⟩
theorem Grid.storeF {E EE : TypeId} {w wr : World} {hi r c k j bb m cap' : Nat} {F : Ents} {x : UInt8} {v : Value} {vs : List Value} (h : Grid E EE w wr hi v (mkM r c F) vs) (hk : k < r) (hu : vs[k]? = some (.slice (some ⟨bb, 0, none⟩) m cap')) :
    Grid E EE w (wr.setCell ⟨bb, j, none⟩ (.int .u8 (x.toNat : Int))) hi v (mkM r c fun i jj => if i = k ∧ jj = j then x else F i jj) vs := by
  have ho := h.own.rows k _ hu
  have h1 := (ho.1.lt bb rfl).1
  exact ⟨h.own.storeF hk hu, h.old.setCell (show w.heap.size ≤ bb by omega) _⟩
def msgOk (n k : Int) (l : List UInt8) : Bool := msrOk n k && decide ((l.length : Int) = k * (k - 1))
def msgR (n k : Int) (l : List UInt8) : Mat := if msgOk n k l = true then msgM (k - 1).toNat l else []
theorem msgR_no {n k : Int} {l : List UInt8} (h : msgOk n k l = false) : msgR n k l = [] := if_neg (by rw [h]; simp)
theorem msgR_yes {n : Int} {a : Nat} {l : List UInt8} (h : msgOk n ((a : Int) + 1) l = true) : msgR n ((a : Int) + 1) l = msgM a l := by unfold msgR; rw [if_pos h]; congr 1; omega
theorem msgR_siz (n k : Int) (l : List UInt8) : sizM (msgR n k l) ≤ 256 := by
  unfold msgR; split
  · rename_i h
    simp only [msgOk, Bool.and_eq_true] at h
    have := msrOk_b h.1
    exact sizM_side _ (by omega) (by omega)
  · simp [sizM]
/-- a code that is valid: K is one more than alpha -/
theorem msr_alpha {n k : Int} (h : msrOk n k = true) : ∃ a : Nat, k = (a : Int) + 1 ∧ 1 ≤ a ∧ a ≤ 3 ∧ 2 * (a : Int) + 1 ≤ n ∧ n ≤ 14 ∧ msrA n k = (a : Int) ∧ msrD n k = ((2 * a : Nat) : Int) ∧ msrB n k = ((2 * off a a : Nat) : Int) ∧ k * (k - 1) = ((2 * off a a : Nat) : Int) := by
  have hb := msrOk_b h
  have h1 := msrA_yes h
  have h2 := msrD_yes h
  have h3 := msrB_yes h
  rcases msrOk_k h with rfl | rfl | rfl
  · exact ⟨1, rfl, by omega, by omega, by omega, by omega, h1, h2, h3, rfl⟩
  · exact ⟨2, rfl, by omega, by omega, by omega, by omega, h1, h2, h3, rfl⟩
  · exact ⟨3, rfl, by omega, by omega, by omega, by omega, h1, h2, h3, rfl⟩
theorem off_half {a : Nat} (h1 : 1 ≤ a) (h2 : a ≤ 3) : 1 ≤ off a a ∧ off a a ≤ 6 := by
  have : a = 1 ∨ a = 2 ∨ a = 3 := by omega
  rcases this with rfl | rfl | rfl <;> exact ⟨by decide, by decide⟩
theorem Seen.front {w : World} {b o n c h : Nat} {xs : List Value} (hv : Seen w (.slice (some ⟨b, o, none⟩) n c) xs) (hh : h ≤ xs.length) : Seen w (.slice (some ⟨b, o, none⟩) h c) (xs.take h) := by
  obtain ⟨A, c', e, h1, h2, h3⟩ := hv
  simp only [Value.slice.injEq] at e
  obtain ⟨rfl, rfl, rfl⟩ := e
  refine ⟨some ⟨b, o, none⟩, c, by simp [Nat.min_eq_left hh], by simp; omega, h2, fun hp => ?_⟩
  simp only [List.length_take] at hp
  obtain ⟨b', o', e, hb, hc⟩ := h3 (by omega)
  refine ⟨b', o', e, hb, fun i x hx => hc i x ?_⟩
  rw [List.getElem?_take] at hx
  split at hx
  · exact hx
  · cases hx
theorem Seen.back {w : World} {b o n c h : Nat} {xs : List Value} (hv : Seen w (.slice (some ⟨b, o, none⟩) n c) xs) (hh : h < xs.length) : Seen w (.slice (some ⟨b, o + h, none⟩) (n - h) (c - h)) (xs.drop h) := by
  obtain ⟨A, c', e, h1, h2, h3⟩ := hv
  simp only [Value.slice.injEq] at e
  obtain ⟨rfl, rfl, rfl⟩ := e
  obtain ⟨b', o', e, hb, hc⟩ := h3 (by omega)
  simp only [Option.some.injEq, Addr.mk.injEq, and_true] at e
  obtain ⟨rfl, rfl⟩ := e
  refine ⟨some ⟨b, o + h, none⟩, c - h, by simp, by simp; omega, by omega, fun hp => ⟨b, o + h, rfl, hb, fun i x hx => ?_⟩⟩
  rw [List.getElem?_drop] at hx
  have := hc _ x hx
  rwa [← Nat.add_assoc] at this
end G294
namespace Go.Proofs.YtbopocpmodpfcaaDoor
open Go.RowKit G294

end Go.Proofs.YtbopocpmodpfcaaDoor
