/-
  The fault of a record: the program's and the model's.
-/
import Derived.Test.YteebbaleejbodaaARRunF
import Derived.Lib.SmallJoins
import Derived.Deep.RegionHeld

namespace Go.Proofs.Yteebbaleejbodaa
open Go.RowKit
set_option linter.unusedVariables false

theorem as81_81 (v : Value) (W : World) : (Instr.typeAssert (.iface 225 v) 180 225 true).run Try.prog W = .ok (.tuple #[v, .bool true]) W := by kernel_rfl
theorem as81_83 (v : Value) (W : World) : (Instr.typeAssert (.iface 225 v) 180 227 true).run Try.prog W = .ok (.tuple #[.agg #[.int .i64 0, .int .i64 0, .slice none 0 0], .bool false]) W := by kernel_rfl
theorem as81_84 (v : Value) (W : World) : (Instr.typeAssert (.iface 225 v) 180 228 true).run Try.prog W = .ok (.tuple #[.agg #[.int .i64 0, .int .i64 0, .slice none 0 0], .bool false]) W := by kernel_rfl
theorem as81_86 (v : Value) (W : World) : (Instr.typeAssert (.iface 225 v) 180 230 true).run Try.prog W = .ok (.tuple #[.agg #[.int .i64 0, .slice none 0 0], .bool false]) W := by kernel_rfl
theorem as81_87 (v : Value) (W : World) : (Instr.typeAssert (.iface 225 v) 180 231 true).run Try.prog W = .ok (.tuple #[.agg #[.int .i64 0], .bool false]) W := by kernel_rfl
theorem as81_88 (v : Value) (W : World) : (Instr.typeAssert (.iface 225 v) 180 232 true).run Try.prog W = .ok (.tuple #[.agg #[.int .i64 0], .bool false]) W := by kernel_rfl
theorem as83_81 (v : Value) (W : World) : (Instr.typeAssert (.iface 227 v) 180 225 true).run Try.prog W = .ok (.tuple #[.agg #[.int .i64 0], .bool false]) W := by kernel_rfl
theorem as83_83 (v : Value) (W : World) : (Instr.typeAssert (.iface 227 v) 180 227 true).run Try.prog W = .ok (.tuple #[v, .bool true]) W := by kernel_rfl
theorem as83_84 (v : Value) (W : World) : (Instr.typeAssert (.iface 227 v) 180 228 true).run Try.prog W = .ok (.tuple #[.agg #[.int .i64 0, .int .i64 0, .slice none 0 0], .bool false]) W := by kernel_rfl
theorem as83_86 (v : Value) (W : World) : (Instr.typeAssert (.iface 227 v) 180 230 true).run Try.prog W = .ok (.tuple #[.agg #[.int .i64 0, .slice none 0 0], .bool false]) W := by kernel_rfl
theorem as83_87 (v : Value) (W : World) : (Instr.typeAssert (.iface 227 v) 180 231 true).run Try.prog W = .ok (.tuple #[.agg #[.int .i64 0], .bool false]) W := by kernel_rfl
theorem as83_88 (v : Value) (W : World) : (Instr.typeAssert (.iface 227 v) 180 232 true).run Try.prog W = .ok (.tuple #[.agg #[.int .i64 0], .bool false]) W := by kernel_rfl
theorem as84_81 (v : Value) (W : World) : (Instr.typeAssert (.iface 228 v) 180 225 true).run Try.prog W = .ok (.tuple #[.agg #[.int .i64 0], .bool false]) W := by kernel_rfl
theorem as84_83 (v : Value) (W : World) : (Instr.typeAssert (.iface 228 v) 180 227 true).run Try.prog W = .ok (.tuple #[.agg #[.int .i64 0, .int .i64 0, .slice none 0 0], .bool false]) W := by kernel_rfl
theorem as84_84 (v : Value) (W : World) : (Instr.typeAssert (.iface 228 v) 180 228 true).run Try.prog W = .ok (.tuple #[v, .bool true]) W := by kernel_rfl
theorem as84_86 (v : Value) (W : World) : (Instr.typeAssert (.iface 228 v) 180 230 true).run Try.prog W = .ok (.tuple #[.agg #[.int .i64 0, .slice none 0 0], .bool false]) W := by kernel_rfl
theorem as84_87 (v : Value) (W : World) : (Instr.typeAssert (.iface 228 v) 180 231 true).run Try.prog W = .ok (.tuple #[.agg #[.int .i64 0], .bool false]) W := by kernel_rfl
theorem as84_88 (v : Value) (W : World) : (Instr.typeAssert (.iface 228 v) 180 232 true).run Try.prog W = .ok (.tuple #[.agg #[.int .i64 0], .bool false]) W := by kernel_rfl
theorem as86_81 (v : Value) (W : World) : (Instr.typeAssert (.iface 230 v) 180 225 true).run Try.prog W = .ok (.tuple #[.agg #[.int .i64 0], .bool false]) W := by kernel_rfl
theorem as86_83 (v : Value) (W : World) : (Instr.typeAssert (.iface 230 v) 180 227 true).run Try.prog W = .ok (.tuple #[.agg #[.int .i64 0, .int .i64 0, .slice none 0 0], .bool false]) W := by kernel_rfl
theorem as86_84 (v : Value) (W : World) : (Instr.typeAssert (.iface 230 v) 180 228 true).run Try.prog W = .ok (.tuple #[.agg #[.int .i64 0, .int .i64 0, .slice none 0 0], .bool false]) W := by kernel_rfl
theorem as86_86 (v : Value) (W : World) : (Instr.typeAssert (.iface 230 v) 180 230 true).run Try.prog W = .ok (.tuple #[v, .bool true]) W := by kernel_rfl
theorem as86_87 (v : Value) (W : World) : (Instr.typeAssert (.iface 230 v) 180 231 true).run Try.prog W = .ok (.tuple #[.agg #[.int .i64 0], .bool false]) W := by kernel_rfl
theorem as86_88 (v : Value) (W : World) : (Instr.typeAssert (.iface 230 v) 180 232 true).run Try.prog W = .ok (.tuple #[.agg #[.int .i64 0], .bool false]) W := by kernel_rfl
theorem as87_81 (v : Value) (W : World) : (Instr.typeAssert (.iface 231 v) 180 225 true).run Try.prog W = .ok (.tuple #[.agg #[.int .i64 0], .bool false]) W := by kernel_rfl
theorem as87_83 (v : Value) (W : World) : (Instr.typeAssert (.iface 231 v) 180 227 true).run Try.prog W = .ok (.tuple #[.agg #[.int .i64 0, .int .i64 0, .slice none 0 0], .bool false]) W := by kernel_rfl
theorem as87_84 (v : Value) (W : World) : (Instr.typeAssert (.iface 231 v) 180 228 true).run Try.prog W = .ok (.tuple #[.agg #[.int .i64 0, .int .i64 0, .slice none 0 0], .bool false]) W := by kernel_rfl
theorem as87_86 (v : Value) (W : World) : (Instr.typeAssert (.iface 231 v) 180 230 true).run Try.prog W = .ok (.tuple #[.agg #[.int .i64 0, .slice none 0 0], .bool false]) W := by kernel_rfl
theorem as87_87 (v : Value) (W : World) : (Instr.typeAssert (.iface 231 v) 180 231 true).run Try.prog W = .ok (.tuple #[v, .bool true]) W := by kernel_rfl
theorem as87_88 (v : Value) (W : World) : (Instr.typeAssert (.iface 231 v) 180 232 true).run Try.prog W = .ok (.tuple #[.agg #[.int .i64 0], .bool false]) W := by kernel_rfl
theorem as88_81 (v : Value) (W : World) : (Instr.typeAssert (.iface 232 v) 180 225 true).run Try.prog W = .ok (.tuple #[.agg #[.int .i64 0], .bool false]) W := by kernel_rfl
theorem as88_83 (v : Value) (W : World) : (Instr.typeAssert (.iface 232 v) 180 227 true).run Try.prog W = .ok (.tuple #[.agg #[.int .i64 0, .int .i64 0, .slice none 0 0], .bool false]) W := by kernel_rfl
theorem as88_84 (v : Value) (W : World) : (Instr.typeAssert (.iface 232 v) 180 228 true).run Try.prog W = .ok (.tuple #[.agg #[.int .i64 0, .int .i64 0, .slice none 0 0], .bool false]) W := by kernel_rfl
theorem as88_86 (v : Value) (W : World) : (Instr.typeAssert (.iface 232 v) 180 230 true).run Try.prog W = .ok (.tuple #[.agg #[.int .i64 0, .slice none 0 0], .bool false]) W := by kernel_rfl
theorem as88_87 (v : Value) (W : World) : (Instr.typeAssert (.iface 232 v) 180 231 true).run Try.prog W = .ok (.tuple #[.agg #[.int .i64 0], .bool false]) W := by kernel_rfl
theorem as88_88 (v : Value) (W : World) : (Instr.typeAssert (.iface 232 v) 180 232 true).run Try.prog W = .ok (.tuple #[v, .bool true]) W := by kernel_rfl
theorem asN_81 (W : World) : (Instr.typeAssert .nilIface 180 225 true).run Try.prog W = .ok (.tuple #[.agg #[.int .i64 0], .bool false]) W := by kernel_rfl
theorem asN_83 (W : World) : (Instr.typeAssert .nilIface 180 227 true).run Try.prog W = .ok (.tuple #[.agg #[.int .i64 0, .int .i64 0, .slice none 0 0], .bool false]) W := by kernel_rfl
theorem asN_84 (W : World) : (Instr.typeAssert .nilIface 180 228 true).run Try.prog W = .ok (.tuple #[.agg #[.int .i64 0, .int .i64 0, .slice none 0 0], .bool false]) W := by kernel_rfl
theorem asN_86 (W : World) : (Instr.typeAssert .nilIface 180 230 true).run Try.prog W = .ok (.tuple #[.agg #[.int .i64 0, .slice none 0 0], .bool false]) W := by kernel_rfl
theorem asN_87 (W : World) : (Instr.typeAssert .nilIface 180 231 true).run Try.prog W = .ok (.tuple #[.agg #[.int .i64 0], .bool false]) W := by kernel_rfl
theorem asN_88 (W : World) : (Instr.typeAssert .nilIface 180 232 true).run Try.prog W = .ok (.tuple #[.agg #[.int .i64 0], .bool false]) W := by kernel_rfl

/-- A record's cells. -/
def recV (k tx pg : Int) (a : Option Addr) (n c : Nat) : Value := .agg #[.int .i64 k, .int .i64 tx, .int .i64 pg, .slice a n c]

set_option maxHeartbeats 1000000 in
theorem happeningOf_1 (tx pg : Int) (a : Option Addr) (n c : Nat) (w : World) : Calls Try.prog 129 #[.agg #[.int .i64 1, .int .i64 tx, .int .i64 pg, .slice a n c]] w fun e w' => e = .returned (.iface 225 (.agg #[.int .i64 tx])) ∧ Below w.heap.size w w' := by
  go_enter Try.func129, Try.ntmps129
  go_wp2
  go_ret
  exact ⟨rfl, by go_grown⟩

set_option maxHeartbeats 1000000 in
theorem happeningOf_2 (tx pg : Int) (a : Option Addr) (n c : Nat) (w : World) : Calls Try.prog 129 #[.agg #[.int .i64 2, .int .i64 tx, .int .i64 pg, .slice a n c]] w fun e w' => e = .returned (.iface 227 (.agg #[.int .i64 tx, .int .i64 pg, .slice a n c])) ∧ Below w.heap.size w w' := by
  go_enter Try.func129, Try.ntmps129
  go_wp2
  go_ret
  exact ⟨rfl, by go_grown⟩

set_option maxHeartbeats 1000000 in
theorem happeningOf_3 (tx pg : Int) (a : Option Addr) (n c : Nat) (w : World) : Calls Try.prog 129 #[.agg #[.int .i64 3, .int .i64 tx, .int .i64 pg, .slice a n c]] w fun e w' => e = .returned (.iface 228 (.agg #[.int .i64 tx, .int .i64 pg, .slice a n c])) ∧ Below w.heap.size w w' := by
  go_enter Try.func129, Try.ntmps129
  go_wp2
  go_ret
  exact ⟨rfl, by go_grown⟩

set_option maxHeartbeats 1000000 in
theorem happeningOf_4 (tx pg : Int) (a : Option Addr) (n c : Nat) (w : World) : Calls Try.prog 129 #[.agg #[.int .i64 4, .int .i64 tx, .int .i64 pg, .slice a n c]] w fun e w' => e = .returned (.iface 230 (.agg #[.int .i64 pg, .slice a n c])) ∧ Below w.heap.size w w' := by
  go_enter Try.func129, Try.ntmps129
  go_wp2
  go_ret
  exact ⟨rfl, by go_grown⟩

set_option maxHeartbeats 1000000 in
theorem happeningOf_5 (tx pg : Int) (a : Option Addr) (n c : Nat) (w : World) : Calls Try.prog 129 #[.agg #[.int .i64 5, .int .i64 tx, .int .i64 pg, .slice a n c]] w fun e w' => e = .returned (.iface 231 (.agg #[.int .i64 tx])) ∧ Below w.heap.size w w' := by
  go_enter Try.func129, Try.ntmps129
  go_wp2
  go_ret
  exact ⟨rfl, by go_grown⟩

set_option maxHeartbeats 1000000 in
theorem happeningOf_6 (tx pg : Int) (a : Option Addr) (n c : Nat) (w : World) : Calls Try.prog 129 #[.agg #[.int .i64 6, .int .i64 tx, .int .i64 pg, .slice a n c]] w fun e w' => e = .returned (.iface 232 (.agg #[.int .i64 tx])) ∧ Below w.heap.size w w' := by
  go_enter Try.func129, Try.ntmps129
  go_wp2
  go_ret
  exact ⟨rfl, by go_grown⟩

set_option maxHeartbeats 1000000 in
theorem happeningOf_no (k tx pg : Int) (a : Option Addr) (n c : Nat) (w : World) (h : inR k 1 6 = false) : Calls Try.prog 129 #[.agg #[.int .i64 k, .int .i64 tx, .int .i64 pg, .slice a n c]] w fun e w' => e = .returned .nilIface ∧ Below w.heap.size w w' := by
  have hk : k < 1 ∨ 6 < k := by simp [inR] at h; omega
  have d1 : (k == 1) = false := by simp; omega
  have d2 : (k == 2) = false := by simp; omega
  have d3 : (k == 3) = false := by simp; omega
  have d4 : (k == 4) = false := by simp; omega
  have d5 : (k == 5) = false := by simp; omega
  have d6 : (k == 6) = false := by simp; omega
  clear hk h
  go_enter Try.func129, Try.ntmps129
  go_wp2
  go_ret
  exact ⟨rfl, by go_grown⟩

end Go.Proofs.Yteebbaleejbodaa

/-
  The fault of a record: the program's parts.
-/
namespace Go.Proofs.Yteebbaleejbodaa
open Go.RowKit
set_option linter.unusedVariables false

/-- Whether a record of a kind without runs has something of them. -/
def muchB (pg : Int) (n : Nat) : Bool := (pg != 0) || decide (0 < n)

set_option maxHeartbeats 1000000 in
theorem isTooMuch_1 (k tx pg : Int) (a : Option Addr) (n c : Nat) (w : World) : Calls Try.prog 130 #[.agg #[.int .i64 k, .int .i64 tx, .int .i64 pg, .slice a n c], .iface 225 (.agg #[.int .i64 tx])] w fun e w' => e = .returned (.bool (muchB pg n)) ∧ Below w.heap.size w w' := by
  have f81 := as81_81 (.agg #[.int .i64 tx])
  have f87 := as81_87 (.agg #[.int .i64 tx])
  have f88 := as81_88 (.agg #[.int .i64 tx])
  by_cases h : pg = 0
  · subst h
    have HM : Hid (muchB 0 n = decide (0 < n)) := by show _ = _; simp [muchB]
    have e1 : decide ((0 : Int) < (n : Int)) = decide (0 < n) := by simp
    go_enter Try.func130, Try.ntmps130
    go_wp2
    go_ret
    exact ⟨by rw [HM.out]; simp, by go_grown⟩
  · have d : (pg != 0) = true := by simpa using h
    have HM : Hid (muchB pg n = true) := by show _ = _; simp [muchB, d]
    clear h
    go_enter Try.func130, Try.ntmps130
    go_wp2
    go_ret
    exact ⟨by rw [HM.out]; rfl, by go_grown⟩

set_option maxHeartbeats 1000000 in
theorem isTooMuch_5 (k tx pg : Int) (a : Option Addr) (n c : Nat) (w : World) : Calls Try.prog 130 #[.agg #[.int .i64 k, .int .i64 tx, .int .i64 pg, .slice a n c], .iface 231 (.agg #[.int .i64 tx])] w fun e w' => e = .returned (.bool (muchB pg n)) ∧ Below w.heap.size w w' := by
  have f81 := as87_81 (.agg #[.int .i64 tx])
  have f87 := as87_87 (.agg #[.int .i64 tx])
  have f88 := as87_88 (.agg #[.int .i64 tx])
  by_cases h : pg = 0
  · subst h
    have HM : Hid (muchB 0 n = decide (0 < n)) := by show _ = _; simp [muchB]
    have e1 : decide ((0 : Int) < (n : Int)) = decide (0 < n) := by simp
    go_enter Try.func130, Try.ntmps130
    go_wp2
    go_ret
    exact ⟨by rw [HM.out]; simp, by go_grown⟩
  · have d : (pg != 0) = true := by simpa using h
    have HM : Hid (muchB pg n = true) := by show _ = _; simp [muchB, d]
    clear h
    go_enter Try.func130, Try.ntmps130
    go_wp2
    go_ret
    exact ⟨by rw [HM.out]; rfl, by go_grown⟩

set_option maxHeartbeats 1000000 in
theorem isTooMuch_6 (k tx pg : Int) (a : Option Addr) (n c : Nat) (w : World) : Calls Try.prog 130 #[.agg #[.int .i64 k, .int .i64 tx, .int .i64 pg, .slice a n c], .iface 232 (.agg #[.int .i64 tx])] w fun e w' => e = .returned (.bool (muchB pg n)) ∧ Below w.heap.size w w' := by
  have f81 := as88_81 (.agg #[.int .i64 tx])
  have f87 := as88_87 (.agg #[.int .i64 tx])
  have f88 := as88_88 (.agg #[.int .i64 tx])
  by_cases h : pg = 0
  · subst h
    have HM : Hid (muchB 0 n = decide (0 < n)) := by show _ = _; simp [muchB]
    have e1 : decide ((0 : Int) < (n : Int)) = decide (0 < n) := by simp
    go_enter Try.func130, Try.ntmps130
    go_wp2
    go_ret
    exact ⟨by rw [HM.out]; simp, by go_grown⟩
  · have d : (pg != 0) = true := by simpa using h
    have HM : Hid (muchB pg n = true) := by show _ = _; simp [muchB, d]
    clear h
    go_enter Try.func130, Try.ntmps130
    go_wp2
    go_ret
    exact ⟨by rw [HM.out]; rfl, by go_grown⟩

set_option maxHeartbeats 1000000 in
theorem isTooMuch_2 (k tx pg : Int) (a : Option Addr) (n c : Nat) (w : World) : Calls Try.prog 130 #[.agg #[.int .i64 k, .int .i64 tx, .int .i64 pg, .slice a n c], .iface 227 (.agg #[.int .i64 tx, .int .i64 pg, .slice a n c])] w fun e w' => e = .returned (.bool false) ∧ Below w.heap.size w w' := by
  have f81 := as83_81 (.agg #[.int .i64 tx, .int .i64 pg, .slice a n c])
  have f87 := as83_87 (.agg #[.int .i64 tx, .int .i64 pg, .slice a n c])
  have f88 := as83_88 (.agg #[.int .i64 tx, .int .i64 pg, .slice a n c])
  have f86 := as83_86 (.agg #[.int .i64 tx, .int .i64 pg, .slice a n c])
  go_enter Try.func130, Try.ntmps130
  go_wp2
  go_ret
  exact ⟨rfl, by go_grown⟩

set_option maxHeartbeats 1000000 in
theorem isTooMuch_3 (k tx pg : Int) (a : Option Addr) (n c : Nat) (w : World) : Calls Try.prog 130 #[.agg #[.int .i64 k, .int .i64 tx, .int .i64 pg, .slice a n c], .iface 228 (.agg #[.int .i64 tx, .int .i64 pg, .slice a n c])] w fun e w' => e = .returned (.bool false) ∧ Below w.heap.size w w' := by
  have f81 := as84_81 (.agg #[.int .i64 tx, .int .i64 pg, .slice a n c])
  have f87 := as84_87 (.agg #[.int .i64 tx, .int .i64 pg, .slice a n c])
  have f88 := as84_88 (.agg #[.int .i64 tx, .int .i64 pg, .slice a n c])
  have f86 := as84_86 (.agg #[.int .i64 tx, .int .i64 pg, .slice a n c])
  go_enter Try.func130, Try.ntmps130
  go_wp2
  go_ret
  exact ⟨rfl, by go_grown⟩

set_option maxHeartbeats 1000000 in
theorem isTooMuch_4 (k tx pg : Int) (a : Option Addr) (n c : Nat) (w : World) : Calls Try.prog 130 #[.agg #[.int .i64 k, .int .i64 tx, .int .i64 pg, .slice a n c], .iface 230 (.agg #[.int .i64 pg, .slice a n c])] w fun e w' => e = .returned (.bool (tx != 0)) ∧ Below w.heap.size w w' := by
  have f81 := as86_81 (.agg #[.int .i64 pg, .slice a n c])
  have f87 := as86_87 (.agg #[.int .i64 pg, .slice a n c])
  have f88 := as86_88 (.agg #[.int .i64 pg, .slice a n c])
  have f86 := as86_86 (.agg #[.int .i64 pg, .slice a n c])
  go_enter Try.func130, Try.ntmps130
  go_wp2
  go_ret
  exact ⟨rfl, by go_grown⟩

set_option maxHeartbeats 1000000 in
theorem isTooMuch_no (k tx pg : Int) (a : Option Addr) (n c : Nat) (w : World) : Calls Try.prog 130 #[.agg #[.int .i64 k, .int .i64 tx, .int .i64 pg, .slice a n c], .nilIface] w fun e w' => e = .returned (.bool false) ∧ Below w.heap.size w w' := by
  have f81 := asN_81
  have f87 := asN_87
  have f88 := asN_88
  have f86 := asN_86
  go_enter Try.func130, Try.ntmps130
  go_wp2
  go_ret
  exact ⟨rfl, by go_grown⟩

/-- The fault of a Tx, and of a Page. -/
def txQ (tx : Int) : Int := if inR tx 1 99 = true then 0 else 3
def pgQ (pg : Int) : Int := if inR pg 0 11 = true then 0 else 3

set_option maxHeartbeats 400000 in
theorem txFaultR_any (x : Int) (w : World) : Calls Try.prog 114 #[.int .i64 x] w fun e w' => e = .returned (.int .i64 (txQ x)) ∧ w' = w := by
  cases h : inR x 1 99
  · have HQ : Hid (txQ x = 3) := by show _ = _; unfold txQ; rw [h]; rfl
    go_enter Try.func114, Try.ntmps114
    go_wp2_with fail
    refine (isWithin_any x 1 99 _).mono ?_
    rintro e w' ⟨rfl, rfl⟩
    rw [h]
    clear h
    go_wp2_with fail
    go_ret
    exact ⟨by rw [HQ.out]; rfl, rfl⟩
  · have HQ : Hid (txQ x = 0) := by show _ = _; unfold txQ; rw [h]; rfl
    go_enter Try.func114, Try.ntmps114
    go_wp2_with fail
    refine (isWithin_any x 1 99 _).mono ?_
    rintro e w' ⟨rfl, rfl⟩
    rw [h]
    clear h
    go_wp2_with fail
    go_ret
    exact ⟨by rw [HQ.out]; rfl, rfl⟩

set_option maxHeartbeats 400000 in
theorem pageFault_any (x : Int) (w : World) : Calls Try.prog 180 #[.int .i64 x] w fun e w' => e = .returned (.int .i64 (pgQ x)) ∧ w' = w := by
  cases h : inR x 0 11
  · have HQ : Hid (pgQ x = 3) := by show _ = _; unfold pgQ; rw [h]; rfl
    go_enter Try.func180, Try.ntmps180
    go_wp2_with fail
    refine (isWithin_any x 0 11 _).mono ?_
    rintro e w' ⟨rfl, rfl⟩
    rw [h]
    clear h
    go_wp2_with fail
    go_ret
    exact ⟨by rw [HQ.out]; rfl, rfl⟩
  · have HQ : Hid (pgQ x = 0) := by show _ = _; unfold pgQ; rw [h]; rfl
    go_enter Try.func180, Try.ntmps180
    go_wp2_with fail
    refine (isWithin_any x 0 11 _).mono ?_
    rintro e w' ⟨rfl, rfl⟩
    rw [h]
    clear h
    go_wp2_with fail
    go_ret
    exact ⟨by rw [HQ.out]; rfl, rfl⟩

/-- The first that is not 0. -/
def or2 (x y : Int) : Int := if x = 0 then y else x

set_option maxHeartbeats 400000 in
theorem cmpOr_three (b c : Nat) (x y z : Int) (w : World) (h0 : w.cell? ⟨b, 0, none⟩ = some (.int .i64 x)) (h1 : w.cell? ⟨b, 1, none⟩ = some (.int .i64 y)) (h2 : w.cell? ⟨b, 2, none⟩ = some (.int .i64 z)) :
    Calls Try.prog 52 #[.slice (some ⟨b, 0, none⟩) 3 c] w fun e w' => e = .returned (.int .i64 (or2 x (or2 y z))) ∧ w' = w := by
  by_cases hx : x = 0
  · have HX : Hid (or2 x (or2 y z) = or2 y z) := by show _ = _; unfold or2; rw [if_pos hx]
    subst hx
    by_cases hy : y = 0
    · have HY : Hid (or2 y z = z) := by show _ = _; unfold or2; rw [if_pos hy]
      subst hy
      by_cases hz : z = 0
      · subst hz
        go_enter Try.func52, Try.ntmps52
        go_wp2
        go_rounds 4
        go_ret
        exact ⟨by rw [HX.out, HY.out]; rfl, rfl⟩
      · have d : (z != 0) = true := by simpa using hz
        clear hz
        go_enter Try.func52, Try.ntmps52
        go_wp2
        go_rounds 3
        go_ret
        exact ⟨by rw [HX.out, HY.out]; rfl, rfl⟩
    · have HY : Hid (or2 y z = y) := by show _ = _; unfold or2; rw [if_neg hy]
      have d : (y != 0) = true := by simpa using hy
      clear hy
      go_enter Try.func52, Try.ntmps52
      go_wp2
      go_rounds 2
      go_ret
      exact ⟨by rw [HX.out, HY.out]; rfl, rfl⟩
  · have HX : Hid (or2 x (or2 y z) = x) := by show _ = _; unfold or2; rw [if_neg hx]
    have d : (x != 0) = true := by simpa using hx
    clear hx
    go_enter Try.func52, Try.ntmps52
    go_wp2
    go_rounds 1
    go_ret
    exact ⟨by rw [HX.out]; rfl, rfl⟩

set_option maxHeartbeats 400000 in
theorem cmpOr_two (b c : Nat) (x y : Int) (w : World) (h0 : w.cell? ⟨b, 0, none⟩ = some (.int .i64 x)) (h1 : w.cell? ⟨b, 1, none⟩ = some (.int .i64 y)) :
    Calls Try.prog 52 #[.slice (some ⟨b, 0, none⟩) 2 c] w fun e w' => e = .returned (.int .i64 (or2 x y)) ∧ w' = w := by
  by_cases hx : x = 0
  · have HX : Hid (or2 x y = y) := by show _ = _; unfold or2; rw [if_pos hx]
    subst hx
    by_cases hy : y = 0
    · subst hy
      go_enter Try.func52, Try.ntmps52
      go_wp2
      go_rounds 3
      go_ret
      exact ⟨by rw [HX.out]; rfl, rfl⟩
    · have d : (y != 0) = true := by simpa using hy
      clear hy
      go_enter Try.func52, Try.ntmps52
      go_wp2
      go_rounds 2
      go_ret
      exact ⟨by rw [HX.out]; rfl, rfl⟩
  · have HX : Hid (or2 x y = x) := by show _ = _; unfold or2; rw [if_neg hx]
    have d : (x != 0) = true := by simpa using hx
    clear hx
    go_enter Try.func52, Try.ntmps52
    go_wp2
    go_rounds 1
    go_ret
    exact ⟨by rw [HX.out]; rfl, rfl⟩

end Go.Proofs.Yteebbaleejbodaa
