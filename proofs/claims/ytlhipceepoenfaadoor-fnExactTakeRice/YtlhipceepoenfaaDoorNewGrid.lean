/- newGrid: rows of a new grid, entry by entry, by whatever function value. -/
import Derived.Test.YtlhipceepoenfaaDoorProg
import Derived.Deep.QuietTactic
import Derived.BigQuiet
import Derived.Deep.RegionHeld3
import Derived.Shelf.Abstract
import Derived.Test.YtlhipceepoenfaaDoorMatMem
set_option linter.unusedSimpArgs false
set_option linter.unusedVariables false
namespace G294
open Go Go.RowKit
/-- the function value g with what it captured hands back F i j at i, j; it may draw; it turns and lays nothing -/
def GivesAt (P : Program) (g : Nat) (lb : Array Value) (r c : Nat) (F : Ents) (w : World) : Prop :=
  ∀ (W : World) (i j : Nat), Below w.heap.size w W → i < r → j < c → Calls P g (#[.int .i64 i, .int .i64 j] ++ lb) W fun e w' => e = .returned (.int .u8 ((F i j).toNat : Int)) ∧ ∃ q, w' = W.drewN q
theorem GivesAt.later {P : Program} {g : Nat} {lb : Array Value} {r c : Nat} {F : Ents} {w W : World} (h : GivesAt P g lb r c F w) (hb : Below w.heap.size w W) : GivesAt P g lb r c F W :=
  fun W' i j hb' hi hj => h W' i j (hb.trans (hb'.mono hb.size)) hi hj
theorem getD_rep (n i : Nat) : (List.replicate n ([] : List UInt8)).getD i [] = [] := by
  simp only [List.getD, List.getElem?_replicate]; split <;> rfl
theorem own_blank {E EE : TypeId} {w w1 : World} {r c : Nat} {F : Ents} {v : Value} (h : w1.ownsRow w.heap.size EE 1 v r (List.replicate r (.slice none 0 0))) :
    OwnM E EE w1 w.heap.size w1.heap.size v (mkM 0 c F ++ List.replicate (r - 0) []) (List.replicate r (.slice none 0 0)) := by
  refine ⟨by simpa using h, Nat.le_refl _, fun g e => (h.lt g e).2, ?_, ?_⟩
  · intro i u hu
    have : u = .slice none 0 0 := by
      rw [List.getElem?_replicate] at hu; split at hu <;> simp_all
    subst this
    have e : (mkM 0 c F ++ List.replicate (r - 0) []).getD i [] = [] := by
      have e0 : mkM 0 c F = [] := rfl
      rw [e0, List.nil_append]; exact getD_rep _ _
    rw [e]
    exact OwnBytes.nil _ _ _
  · intro i u g hu hg
    have : u = .slice none 0 0 := by
      rw [List.getElem?_replicate] at hu; split at hu <;> simp_all
    subst this
    simp [Value.ownBlock] at hg
theorem mkM_succ (k c : Nat) (F : Ents) : mkM (k + 1) c F = mkM k c F ++ [mkRow c (F k)] := by simp [mkM, List.range_succ]
theorem set_mid {α : Type} (l m : List α) (x y : α) (k : Nat) (hk : l.length = k) : (l ++ x :: m).set k y = l ++ y :: m := by
  subst hk; simp
theorem getD_mid {α : Type} (l m : List α) (x d : α) (k : Nat) (hk : l.length = k) : (l ++ x :: m).getD k d = x := by
  subst hk; simp [List.getD]
end G294
namespace Go.Proofs.YtlhipceepoenfaaDoor
open Go.RowKit G294

theorem infoRowB : (Tryd.prog.info? 61).map (fun i => (i.zero, i.size, i.bytes)) = some (some (.slice none 0 0), 1, 24) := by kernel_rfl

theorem infoElemB : (Tryd.prog.info? 5).map (fun i => (i.zero, i.size, i.bytes)) = some (some (.int .u8 0), 1, 1) := by kernel_rfl

end Go.Proofs.YtlhipceepoenfaaDoor
