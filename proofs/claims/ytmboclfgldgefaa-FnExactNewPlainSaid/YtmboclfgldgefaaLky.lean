/-
  The model's l6Key.
-/
import Derived.Test.YtmboclfgldgefaaChq
namespace Go.Proofs.Ytmboclfgldgefaa
open Go.RowKit Go.Maps
set_option linter.unusedVariables false

theorem ChC.before {w : World} {b o : Nat} {x : Chg} (h : ChC w b o x) : RowC w b (o + 1) x.b := ⟨h.c1, h.c2, h.c3, h.c4⟩
theorem ChC.after {w : World} {b o : Nat} {x : Chg} (h : ChC w b o x) : RowC w b (o + 6) x.a := ⟨h.c6, h.c7, h.c8, h.c9⟩
theorem ChC.drews {w : World} {b o : Nat} {x : Chg} (h : ChC w b o x) (n : Nat) : ChC (w.drewN n) b o x := ⟨h.c0, h.c1, h.c2, h.c3, h.c4, h.c5, h.c6, h.c7, h.c8, h.c9⟩

set_option maxHeartbeats 1000000 in
theorem l6Key_any (b o : Nat) (x : Chg) (w : World) (h : ChC w b o x) :
    Calls Try.prog 108 #[.pointer (some ⟨b, o, none⟩)] w fun e w' => e = .returned (.tuple #[.int .i64 (kT x), .int .i64 (kK x)]) ∧ ∃ m, w' = w.drewN m := by
  obtain ⟨x0, ⟨bt, bk, bv, bs⟩, x5, ⟨at', ak, av, sa⟩⟩ := x
  obtain ⟨c0, c1, c2, c3, c4, c5, c6, c7, c8, c9⟩ := h
  dsimp only at c0 c1 c2 c3 c4 c5 c6 c7 c8 c9
  cases x5
  · go_enter Try.func108, Try.ntmps108
    go_upto_region 3 with (fail)
    go_quiet (fail)
    go_wp2_with fail
    refine bodyPost_ret (v := .tuple #[.int .i64 bt, .int .i64 bk]) (by simp [results, Try.results108, go_sem]) rfl ?_
    exact ⟨rfl, _, rfl⟩
  · go_enter Try.func108, Try.ntmps108
    go_upto_region 2 with (fail)
    go_quiet (fail)
    go_wp2_with fail
    refine bodyPost_ret (v := .tuple #[.int .i64 at', .int .i64 ak]) (by simp [results, Try.results108, go_sem]) rfl ?_
    exact ⟨rfl, _, rfl⟩

end Go.Proofs.Ytmboclfgldgefaa



