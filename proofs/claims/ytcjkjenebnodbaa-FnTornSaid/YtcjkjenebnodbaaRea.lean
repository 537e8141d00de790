/-
  The fault of a record: the program's and the model's.
-/
import Derived.Test.YtcjkjenebnodbaaRunF
import Derived.Lib.SmallJoins
namespace Go.Proofs.Ytcjkjenebnodbaa
open Go.RowKit
set_option linter.unusedVariables false

theorem as81_81 (v : Value) (W : World) : (Instr.typeAssert (.iface 142 v) 111 142 true).run Try.prog W = .ok (.tuple #[v, .bool true]) W := by kernel_rfl
theorem as81_83 (v : Value) (W : World) : (Instr.typeAssert (.iface 142 v) 111 144 true).run Try.prog W = .ok (.tuple #[.agg #[.int .i64 0, .int .i64 0, .slice none 0 0], .bool false]) W := by kernel_rfl
theorem as81_84 (v : Value) (W : World) : (Instr.typeAssert (.iface 142 v) 111 145 true).run Try.prog W = .ok (.tuple #[.agg #[.int .i64 0, .int .i64 0, .slice none 0 0], .bool false]) W := by kernel_rfl
theorem as81_86 (v : Value) (W : World) : (Instr.typeAssert (.iface 142 v) 111 147 true).run Try.prog W = .ok (.tuple #[.agg #[.int .i64 0, .slice none 0 0], .bool false]) W := by kernel_rfl
theorem as81_87 (v : Value) (W : World) : (Instr.typeAssert (.iface 142 v) 111 148 true).run Try.prog W = .ok (.tuple #[.agg #[.int .i64 0], .bool false]) W := by kernel_rfl
theorem as81_88 (v : Value) (W : World) : (Instr.typeAssert (.iface 142 v) 111 149 true).run Try.prog W = .ok (.tuple #[.agg #[.int .i64 0], .bool false]) W := by kernel_rfl
theorem as83_81 (v : Value) (W : World) : (Instr.typeAssert (.iface 144 v) 111 142 true).run Try.prog W = .ok (.tuple #[.agg #[.int .i64 0], .bool false]) W := by kernel_rfl
theorem as83_83 (v : Value) (W : World) : (Instr.typeAssert (.iface 144 v) 111 144 true).run Try.prog W = .ok (.tuple #[v, .bool true]) W := by kernel_rfl
theorem as83_84 (v : Value) (W : World) : (Instr.typeAssert (.iface 144 v) 111 145 true).run Try.prog W = .ok (.tuple #[.agg #[.int .i64 0, .int .i64 0, .slice none 0 0], .bool false]) W := by kernel_rfl
theorem as83_86 (v : Value) (W : World) : (Instr.typeAssert (.iface 144 v) 111 147 true).run Try.prog W = .ok (.tuple #[.agg #[.int .i64 0, .slice none 0 0], .bool false]) W := by kernel_rfl
theorem as83_87 (v : Value) (W : World) : (Instr.typeAssert (.iface 144 v) 111 148 true).run Try.prog W = .ok (.tuple #[.agg #[.int .i64 0], .bool false]) W := by kernel_rfl
theorem as83_88 (v : Value) (W : World) : (Instr.typeAssert (.iface 144 v) 111 149 true).run Try.prog W = .ok (.tuple #[.agg #[.int .i64 0], .bool false]) W := by kernel_rfl
theorem as84_81 (v : Value) (W : World) : (Instr.typeAssert (.iface 145 v) 111 142 true).run Try.prog W = .ok (.tuple #[.agg #[.int .i64 0], .bool false]) W := by kernel_rfl
theorem as84_83 (v : Value) (W : World) : (Instr.typeAssert (.iface 145 v) 111 144 true).run Try.prog W = .ok (.tuple #[.agg #[.int .i64 0, .int .i64 0, .slice none 0 0], .bool false]) W := by kernel_rfl
theorem as84_84 (v : Value) (W : World) : (Instr.typeAssert (.iface 145 v) 111 145 true).run Try.prog W = .ok (.tuple #[v, .bool true]) W := by kernel_rfl
theorem as84_86 (v : Value) (W : World) : (Instr.typeAssert (.iface 145 v) 111 147 true).run Try.prog W = .ok (.tuple #[.agg #[.int .i64 0, .slice none 0 0], .bool false]) W := by kernel_rfl
theorem as84_87 (v : Value) (W : World) : (Instr.typeAssert (.iface 145 v) 111 148 true).run Try.prog W = .ok (.tuple #[.agg #[.int .i64 0], .bool false]) W := by kernel_rfl
theorem as84_88 (v : Value) (W : World) : (Instr.typeAssert (.iface 145 v) 111 149 true).run Try.prog W = .ok (.tuple #[.agg #[.int .i64 0], .bool false]) W := by kernel_rfl
theorem as86_81 (v : Value) (W : World) : (Instr.typeAssert (.iface 147 v) 111 142 true).run Try.prog W = .ok (.tuple #[.agg #[.int .i64 0], .bool false]) W := by kernel_rfl
theorem as86_83 (v : Value) (W : World) : (Instr.typeAssert (.iface 147 v) 111 144 true).run Try.prog W = .ok (.tuple #[.agg #[.int .i64 0, .int .i64 0, .slice none 0 0], .bool false]) W := by kernel_rfl
theorem as86_84 (v : Value) (W : World) : (Instr.typeAssert (.iface 147 v) 111 145 true).run Try.prog W = .ok (.tuple #[.agg #[.int .i64 0, .int .i64 0, .slice none 0 0], .bool false]) W := by kernel_rfl
theorem as86_86 (v : Value) (W : World) : (Instr.typeAssert (.iface 147 v) 111 147 true).run Try.prog W = .ok (.tuple #[v, .bool true]) W := by kernel_rfl
theorem as86_87 (v : Value) (W : World) : (Instr.typeAssert (.iface 147 v) 111 148 true).run Try.prog W = .ok (.tuple #[.agg #[.int .i64 0], .bool false]) W := by kernel_rfl
theorem as86_88 (v : Value) (W : World) : (Instr.typeAssert (.iface 147 v) 111 149 true).run Try.prog W = .ok (.tuple #[.agg #[.int .i64 0], .bool false]) W := by kernel_rfl
theorem as87_81 (v : Value) (W : World) : (Instr.typeAssert (.iface 148 v) 111 142 true).run Try.prog W = .ok (.tuple #[.agg #[.int .i64 0], .bool false]) W := by kernel_rfl
theorem as87_83 (v : Value) (W : World) : (Instr.typeAssert (.iface 148 v) 111 144 true).run Try.prog W = .ok (.tuple #[.agg #[.int .i64 0, .int .i64 0, .slice none 0 0], .bool false]) W := by kernel_rfl
theorem as87_84 (v : Value) (W : World) : (Instr.typeAssert (.iface 148 v) 111 145 true).run Try.prog W = .ok (.tuple #[.agg #[.int .i64 0, .int .i64 0, .slice none 0 0], .bool false]) W := by kernel_rfl
theorem as87_86 (v : Value) (W : World) : (Instr.typeAssert (.iface 148 v) 111 147 true).run Try.prog W = .ok (.tuple #[.agg #[.int .i64 0, .slice none 0 0], .bool false]) W := by kernel_rfl
theorem as87_87 (v : Value) (W : World) : (Instr.typeAssert (.iface 148 v) 111 148 true).run Try.prog W = .ok (.tuple #[v, .bool true]) W := by kernel_rfl
theorem as87_88 (v : Value) (W : World) : (Instr.typeAssert (.iface 148 v) 111 149 true).run Try.prog W = .ok (.tuple #[.agg #[.int .i64 0], .bool false]) W := by kernel_rfl
theorem as88_81 (v : Value) (W : World) : (Instr.typeAssert (.iface 149 v) 111 142 true).run Try.prog W = .ok (.tuple #[.agg #[.int .i64 0], .bool false]) W := by kernel_rfl
theorem as88_83 (v : Value) (W : World) : (Instr.typeAssert (.iface 149 v) 111 144 true).run Try.prog W = .ok (.tuple #[.agg #[.int .i64 0, .int .i64 0, .slice none 0 0], .bool false]) W := by kernel_rfl
theorem as88_84 (v : Value) (W : World) : (Instr.typeAssert (.iface 149 v) 111 145 true).run Try.prog W = .ok (.tuple #[.agg #[.int .i64 0, .int .i64 0, .slice none 0 0], .bool false]) W := by kernel_rfl
theorem as88_86 (v : Value) (W : World) : (Instr.typeAssert (.iface 149 v) 111 147 true).run Try.prog W = .ok (.tuple #[.agg #[.int .i64 0, .slice none 0 0], .bool false]) W := by kernel_rfl
theorem as88_87 (v : Value) (W : World) : (Instr.typeAssert (.iface 149 v) 111 148 true).run Try.prog W = .ok (.tuple #[.agg #[.int .i64 0], .bool false]) W := by kernel_rfl
theorem as88_88 (v : Value) (W : World) : (Instr.typeAssert (.iface 149 v) 111 149 true).run Try.prog W = .ok (.tuple #[v, .bool true]) W := by kernel_rfl
theorem asN_81 (W : World) : (Instr.typeAssert .nilIface 111 142 true).run Try.prog W = .ok (.tuple #[.agg #[.int .i64 0], .bool false]) W := by kernel_rfl
theorem asN_83 (W : World) : (Instr.typeAssert .nilIface 111 144 true).run Try.prog W = .ok (.tuple #[.agg #[.int .i64 0, .int .i64 0, .slice none 0 0], .bool false]) W := by kernel_rfl
theorem asN_84 (W : World) : (Instr.typeAssert .nilIface 111 145 true).run Try.prog W = .ok (.tuple #[.agg #[.int .i64 0, .int .i64 0, .slice none 0 0], .bool false]) W := by kernel_rfl
theorem asN_86 (W : World) : (Instr.typeAssert .nilIface 111 147 true).run Try.prog W = .ok (.tuple #[.agg #[.int .i64 0, .slice none 0 0], .bool false]) W := by kernel_rfl
theorem asN_87 (W : World) : (Instr.typeAssert .nilIface 111 148 true).run Try.prog W = .ok (.tuple #[.agg #[.int .i64 0], .bool false]) W := by kernel_rfl
theorem asN_88 (W : World) : (Instr.typeAssert .nilIface 111 149 true).run Try.prog W = .ok (.tuple #[.agg #[.int .i64 0], .bool false]) W := by kernel_rfl

/-- A record's cells. -/
def recV (k tx pg : Int) (a : Option Addr) (n c : Nat) : Value := .agg #[.int .i64 k, .int .i64 tx, .int .i64 pg, .slice a n c]

set_option maxHeartbeats 1000000 in
theorem happeningOf_1 (tx pg : Int) (a : Option Addr) (n c : Nat) (w : World) : Calls Try.prog 92 #[.agg #[.int .i64 1, .int .i64 tx, .int .i64 pg, .slice a n c]] w fun e w' => e = .returned (.iface 142 (.agg #[.int .i64 tx])) ∧ Below w.heap.size w w' := by
  go_enter Try.func92, Try.ntmps92
  go_wp2
  go_ret
  exact ⟨rfl, by go_grown⟩

set_option maxHeartbeats 1000000 in
theorem happeningOf_2 (tx pg : Int) (a : Option Addr) (n c : Nat) (w : World) : Calls Try.prog 92 #[.agg #[.int .i64 2, .int .i64 tx, .int .i64 pg, .slice a n c]] w fun e w' => e = .returned (.iface 144 (.agg #[.int .i64 tx, .int .i64 pg, .slice a n c])) ∧ Below w.heap.size w w' := by
  go_enter Try.func92, Try.ntmps92
  go_wp2
  go_ret
  exact ⟨rfl, by go_grown⟩

set_option maxHeartbeats 1000000 in
theorem happeningOf_3 (tx pg : Int) (a : Option Addr) (n c : Nat) (w : World) : Calls Try.prog 92 #[.agg #[.int .i64 3, .int .i64 tx, .int .i64 pg, .slice a n c]] w fun e w' => e = .returned (.iface 145 (.agg #[.int .i64 tx, .int .i64 pg, .slice a n c])) ∧ Below w.heap.size w w' := by
  go_enter Try.func92, Try.ntmps92
  go_wp2
  go_ret
  exact ⟨rfl, by go_grown⟩

set_option maxHeartbeats 1000000 in
theorem happeningOf_4 (tx pg : Int) (a : Option Addr) (n c : Nat) (w : World) : Calls Try.prog 92 #[.agg #[.int .i64 4, .int .i64 tx, .int .i64 pg, .slice a n c]] w fun e w' => e = .returned (.iface 147 (.agg #[.int .i64 pg, .slice a n c])) ∧ Below w.heap.size w w' := by
  go_enter Try.func92, Try.ntmps92
  go_wp2
  go_ret
  exact ⟨rfl, by go_grown⟩

set_option maxHeartbeats 1000000 in
theorem happeningOf_5 (tx pg : Int) (a : Option Addr) (n c : Nat) (w : World) : Calls Try.prog 92 #[.agg #[.int .i64 5, .int .i64 tx, .int .i64 pg, .slice a n c]] w fun e w' => e = .returned (.iface 148 (.agg #[.int .i64 tx])) ∧ Below w.heap.size w w' := by
  go_enter Try.func92, Try.ntmps92
  go_wp2
  go_ret
  exact ⟨rfl, by go_grown⟩

set_option maxHeartbeats 1000000 in
theorem happeningOf_6 (tx pg : Int) (a : Option Addr) (n c : Nat) (w : World) : Calls Try.prog 92 #[.agg #[.int .i64 6, .int .i64 tx, .int .i64 pg, .slice a n c]] w fun e w' => e = .returned (.iface 149 (.agg #[.int .i64 tx])) ∧ Below w.heap.size w w' := by
  go_enter Try.func92, Try.ntmps92
  go_wp2
  go_ret
  exact ⟨rfl, by go_grown⟩

set_option maxHeartbeats 1000000 in
theorem happeningOf_no (k tx pg : Int) (a : Option Addr) (n c : Nat) (w : World) (h : inR k 1 6 = false) : Calls Try.prog 92 #[.agg #[.int .i64 k, .int .i64 tx, .int .i64 pg, .slice a n c]] w fun e w' => e = .returned .nilIface ∧ Below w.heap.size w w' := by
  have hk : k < 1 ∨ 6 < k := by simp [inR] at h; omega
  have d1 : (k == 1) = false := by simp; omega
  have d2 : (k == 2) = false := by simp; omega
  have d3 : (k == 3) = false := by simp; omega
  have d4 : (k == 4) = false := by simp; omega
  have d5 : (k == 5) = false := by simp; omega
  have d6 : (k == 6) = false := by simp; omega
  clear hk h
  go_enter Try.func92, Try.ntmps92
  go_wp2
  go_ret
  exact ⟨rfl, by go_grown⟩

end Go.Proofs.Ytcjkjenebnodbaa
