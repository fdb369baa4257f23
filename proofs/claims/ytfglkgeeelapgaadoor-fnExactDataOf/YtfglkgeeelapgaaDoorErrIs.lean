/- errors.Is over the two sentinels and *wrongBytes. -/
import Derived.Test.YtfglkgeeelapgaaDoorProg
import Derived.WalkKit
import Derived.LaidEql
import Derived.Stop.Asserts
import Derived.RowKitTokens
import Derived.Lib.Hide
set_option linter.unusedSimpArgs false
set_option linter.unusedVariables false
namespace Go.Proofs.YtfglkgeeelapgaaDoor
open Go.RowKit Go.Extern.Stop Go.Stop Go.Extern

theorem isTypeOf (v : Value) (w : World) : (Extern.ReflectliteType.typeOf #[.iface 182 v]).run Tryd.prog w = .ok (.iface 156 (.agg #[.pointer (some ⟨3, 182, none⟩)])) w := by kernel_rfl

/-- the model's entry for Comparable -/
noncomputable def cmpF : Array Value → Sem Value := (Go.Extern.find Tryd.f183).getD (fun _ => pure (.bool false))

theorem cmpF_found : Go.Extern.find Tryd.f183 = some cmpF := by kernel_rfl

theorem isComparable (w : World) : (cmpF #[.agg #[.pointer (some ⟨3, 182, none⟩)]]).run Tryd.prog w = .ok (.bool true) w := by kernel_rfl

theorem isMethodComparable (v : Value) (w : World) : (Go.method 317 156 v "Comparable").run Tryd.prog w = .ok (183, v) w := by kernel_rfl

theorem isComp : (Tryd.prog.info? 182).map (·.comparable) = some true := by kernel_rfl

theorem isSize : (Tryd.prog.info? 206).map (·.size) = some 1 := by kernel_rfl

theorem noIsE (v : Value) (xT : TypeId) (w : World) : (Instr.typeAssert (.iface 182 v) xT 158 true).run Tryd.prog w = .ok (.tuple #[.nilIface, .bool false]) w := run_typeAssert_lacksB Tryd.underlying158 (by kernel_rfl) (by kernel_rfl) v xT w

theorem noUnwrapE (v : Value) (xT : TypeId) (w : World) : (Instr.typeAssert (.iface 182 v) xT 161 true).run Tryd.prog w = .ok (.tuple #[.nilIface, .bool false]) w := run_typeAssert_lacksB Tryd.underlying161 (by kernel_rfl) (by kernel_rfl) v xT w

theorem noUnwrapsE (v : Value) (xT : TypeId) (w : World) : (Instr.typeAssert (.iface 182 v) xT 163 true).run Tryd.prog w = .ok (.tuple #[.nilIface, .bool false]) w := run_typeAssert_lacksB Tryd.underlying163 (by kernel_rfl) (by kernel_rfl) v xT w

theorem noIsW (v : Value) (xT : TypeId) (w : World) : (Instr.typeAssert (.iface 127 v) xT 158 true).run Tryd.prog w = .ok (.tuple #[.nilIface, .bool false]) w := run_typeAssert_lacksB Tryd.underlying158 (by kernel_rfl) (by kernel_rfl) v xT w

theorem hasUnwrapW (v : Value) (xT : TypeId) (w : World) : (Instr.typeAssert (.iface 127 v) xT 161 true).run Tryd.prog w = .ok (.tuple #[.iface 127 v, .bool true]) w := run_typeAssert_hasB Tryd.underlying161 (by kernel_rfl) v xT w

theorem methodUnwrap (v : Value) (w : World) : (Go.method 317 127 v "Unwrap").run Tryd.prog w = .ok (175, v) w := by kernel_rfl

set_option maxHeartbeats 1000000 in
theorem unwrap_any (v : Value) (b : Addr) (w : World) (hg : w.cell? ⟨0, 0, none⟩ = some (.iface 182 (.pointer (some b)))) :
    Calls Tryd.prog 175 #[v] w fun e w' => e = .returned (.iface 182 (.pointer (some b))) ∧ w = w' := by
  go_enter Tryd.func175, Tryd.ntmps175
  go_wp2_with fail
  go_ret
  exact ⟨rfl, rfl⟩

set_option maxRecDepth 100000 in
set_option maxHeartbeats 4000000 in
/-- errors.Is of two different pointers to errors.errorString: neither has Is nor Unwrap -/
theorem is_other (a b : Addr) (ca cb : Array Value) (ta tb : TypeId) (w : World) (hne : a ≠ b) (ha : w.heap[a.block]? = some (.cells ca ta (0, 0))) (hb : w.heap[b.block]? = some (.cells cb tb (0, 0))) :
    Calls Tryd.prog 99 #[.iface 182 (.pointer (some a)), .iface 182 (.pointer (some b))] w fun e w' => e = .returned (.bool false) ∧ w = w' := by
  obtain ⟨i, hi, hcmp⟩ := Option.map_eq_some_iff.1 isComp
  obtain ⟨j, hj, hjs⟩ := Option.map_eq_some_iff.1 isSize
  have h8 := @run_callFunc_extern Tryd.prog 127 _ Extern.ReflectliteType.typeOf Tryd.func127 (by kernel_rfl) (by kernel_rfl) (by kernel_rfl) (by kernel_rfl)
  have h32 := @run_callFunc_extern Tryd.prog 183 _ cmpF Tryd.func183 (by kernel_rfl) (by kernel_rfl) (by kernel_rfl) cmpF_found
  have tT := isTypeOf
  have cT := isComparable
  have mR := isMethodComparable
  have nE := noIsE
  have uE := noUnwrapE
  have vE := noUnwrapsE
  have heq := run_eql_iface_ptr_other (P := Tryd.prog) w Tryd.underlying109 Tryd.underlying182 hi hcmp hj (by rw [hjs]; decide) hne ha hb
  go_enter Tryd.func99, Tryd.ntmps99
  go_wp2
  refine wp_loop_rounds 1 ?_
  rw [rounds_succ]
  go_wp2
  go_ret
  exact ⟨rfl, rfl⟩

set_option maxRecDepth 100000 in
set_option maxHeartbeats 4000000 in
/-- errors.Is of a *wrongBytes: one Unwrap, then equal -/
theorem is_wrong (p b : Addr) (w : World) (hg : w.cell? ⟨0, 0, none⟩ = some (.iface 182 (.pointer (some b)))) :
    Calls Tryd.prog 99 #[.iface 127 (.pointer (some p)), .iface 182 (.pointer (some b))] w fun e w' => e = .returned (.bool true) ∧ w = w' := by
  obtain ⟨i, hi, hcmp⟩ := Option.map_eq_some_iff.1 isComp
  obtain ⟨j, hj, hjs⟩ := Option.map_eq_some_iff.1 isSize
  have h8 := @run_callFunc_extern Tryd.prog 127 _ Extern.ReflectliteType.typeOf Tryd.func127 (by kernel_rfl) (by kernel_rfl) (by kernel_rfl) (by kernel_rfl)
  have h32 := @run_callFunc_extern Tryd.prog 183 _ cmpF Tryd.func183 (by kernel_rfl) (by kernel_rfl) (by kernel_rfl) cmpF_found
  have tT := isTypeOf
  have cT := isComparable
  have mR := isMethodComparable
  have nW := noIsW
  have uW := hasUnwrapW
  have mU := methodUnwrap
  have heq := run_eql_iface_ptr_same (P := Tryd.prog) w b Tryd.underlying109 Tryd.underlying182 hi hcmp hj
  have hty := run_eql_iface_types (P := Tryd.prog) 127 182 (.pointer (some p)) (.pointer (some b)) Tryd.underlying109 (by decide) w
  go_enter Tryd.func99, Tryd.ntmps99
  go_wp2
  refine wp_loop_rounds 2 ?_
  rw [rounds_succ]
  go_wp2
  rw [rounds_succ]
  go_wp2
  go_ret
  exact ⟨rfl, rfl⟩

end Go.Proofs.YtfglkgeeelapgaaDoor
