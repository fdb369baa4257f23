/- Regions that draw their order, whose operations read and whose callees lay new memory alone and answer the same in all such worlds. -/
import Derived.Test.YtlhipceepoenfaaTurns
import Derived.Test.YtlhipceepoenfaaMatMem
import Derived.Deep.QuietTactic
set_option linter.unusedSimpArgs false
set_option linter.unusedVariables false
namespace G294
open Go Go.RowKit
structure Grew (w : World) where
  at_ : World
  old : Below w.heap.size w at_
instance (w : World) : Inhabited (Grew w) := ⟨⟨w, Below.refl _ _⟩⟩
instance (w : World) : Nonempty (Grew w) := ⟨default⟩
theorem wp_region_grew {P : Program} {id : Nat} {Q : Exit → Act → World → Prop} {a : Act} {w : World} {l : List Oper} (hm : P.follows .mixedOrders = true) (hB : Region.lexB .any l.toArray = true)
    (h : wpQuiet P l.toArray (fun w' => ∃ p : Grew w, w' = p.at_) (fun a' => ∀ w', (∃ p : Grew w, w' = p.at_) → Q .normal a' w') l a) : (Code.region id l.toArray true).wp P Q a w :=
  wp_region_quiet (C := fun w' => ∃ p : Grew w, w' = p.at_) hm hB ⟨⟨w.drew, (Below.refl _ _).drew⟩, rfl⟩ (by simpa using h)
theorem grew_bool {P : Program} {f : FuncId} {args : Array Value} {w : World} {p : Grew w} {b : Bool} (h : Calls P f args p.at_ (RetBool p.at_ b)) :
    Calls P f args p.at_ fun e w'' => e = .returned (.bool b) ∧ ∃ q : Grew w, w'' = q.at_ :=
  h.mono fun _ w'' ⟨he, ht⟩ => ⟨he, ⟨w'', ht.base p.old p.old.size (by omega)⟩, rfl⟩
theorem grew_cell {w : World} {B o : Nat} {x : Value} (h : w.cell? ⟨B, o, none⟩ = some x) (hB : B < w.heap.size) (p : Grew w) : p.at_.cell? ⟨B, o, none⟩ = some x := (p.old.cell (p := ⟨B, o, none⟩) hB).trans h
end G294
