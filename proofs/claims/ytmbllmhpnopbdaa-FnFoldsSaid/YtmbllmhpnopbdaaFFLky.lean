/-
  The model's l6Key.
-/
import Derived.Test.YtmbllmhpnopbdaaFFChw
import Derived.Test.YtmbllmhpnopbdaaFFApl
import Derived.Test.YtmbllmhpnopbdaaFFRby
import Derived.BigQuiet

namespace Go.Proofs.Ytmbllmhpnopbdaa
open Go.RowKit Go.Maps
set_option linter.unusedVariables false

theorem ChC.before {w : World} {b o : Nat} {x : Chg} (h : ChC w b o x) : RowC w b (o + 1) x.b := ⟨h.c1, h.c2, h.c3, h.c4⟩
theorem ChC.after {w : World} {b o : Nat} {x : Chg} (h : ChC w b o x) : RowC w b (o + 6) x.a := ⟨h.c6, h.c7, h.c8, h.c9⟩
theorem ChC.drews {w : World} {b o : Nat} {x : Chg} (h : ChC w b o x) (n : Nat) : ChC (w.drewN n) b o x := ⟨h.c0, h.c1, h.c2, h.c3, h.c4, h.c5, h.c6, h.c7, h.c8, h.c9⟩

set_option maxHeartbeats 1000000 in
theorem l6Key_any (b o : Nat) (x : Chg) (w : World) (h : ChC w b o x) :
    Calls Try.prog 54 #[.pointer (some ⟨b, o, none⟩)] w fun e w' => e = .returned (.tuple #[.int .i64 (kT x), .int .i64 (kK x)]) ∧ ∃ m, w' = w.drewN m := by
  obtain ⟨x0, ⟨bt, bk, bv, bs⟩, x5, ⟨at', ak, av, sa⟩⟩ := x
  obtain ⟨c0, c1, c2, c3, c4, c5, c6, c7, c8, c9⟩ := h
  dsimp only at c0 c1 c2 c3 c4 c5 c6 c7 c8 c9
  cases x5
  · go_enter Try.func54, Try.ntmps54
    go_upto_region 3 with (fail)
    go_quiet (fail)
    go_wp2_with fail
    refine bodyPost_ret (v := .tuple #[.int .i64 bt, .int .i64 bk]) (by simp [results, Try.results54, go_sem]) rfl ?_
    exact ⟨rfl, _, rfl⟩
  · go_enter Try.func54, Try.ntmps54
    go_upto_region 2 with (fail)
    go_quiet (fail)
    go_wp2_with fail
    refine bodyPost_ret (v := .tuple #[.int .i64 at', .int .i64 ak]) (by simp [results, Try.results54, go_sem]) rfl ?_
    exact ⟨rfl, _, rfl⟩

end Go.Proofs.Ytmbllmhpnopbdaa

/-
  Where a row of a key stands (plain facts).
-/
namespace Go.Proofs.Ytmbllmhpnopbdaa
open Go.RowKit Go.Maps
set_option linter.unusedVariables false

theorem atP_uniq {rs : List Rw} (hu : Uniq rs) {t k r r' : Int} (h : AtP rs t k r) (h' : AtP rs t k r') : r = r' := by
  rcases h with ⟨rfl, h⟩ | ⟨i, x, rfl, hx, e1, e2⟩
  · rcases h' with ⟨rfl, _⟩ | ⟨j, y, rfl, hy, f1, f2⟩
    · rfl
    · exact absurd ⟨f1, f2⟩ (h y (List.mem_of_getElem? hy))
  · rcases h' with ⟨rfl, h'⟩ | ⟨j, y, rfl, hy, f1, f2⟩
    · exact absurd ⟨e1, e2⟩ (h' x (List.mem_of_getElem? hx))
    · rw [uniq_eq hu hx hy ⟨e1.trans f1.symm, e2.trans f2.symm⟩]
theorem atP_ex (rs : List Rw) (t k : Int) : ∃ r, AtP rs t k r := by
  by_cases h : ∃ x ∈ rs, x.t = t ∧ x.k = k
  · obtain ⟨x, hx, e⟩ := h
    obtain ⟨i, hi⟩ := List.getElem?_of_mem hx
    exact ⟨i, .inr ⟨i, x, rfl, hi, e.1, e.2⟩⟩
  · exact ⟨-1, .inl ⟨rfl, fun x hx e => h ⟨x, hx, e⟩⟩⟩
theorem AtP.f {rs : List Rw} (hu : Uniq rs) {t k r : Int} (h : AtP rs t k r) : (r = -1 ∧ fR rs t k = none) ∨ ∃ (i : Nat) (x : Rw), r = i ∧ rs[i]? = some x ∧ fR rs t k = some x := by
  rcases h with ⟨rfl, h⟩ | ⟨i, x, rfl, hx, e1, e2⟩
  · exact .inl ⟨rfl, fR_none.2 h⟩
  · refine .inr ⟨i, x, rfl, hx, ?_⟩
    cases hf : fR rs t k with
    | none => exact absurd ⟨e1, e2⟩ (fR_none.1 hf x (List.mem_of_getElem? hx))
    | some y =>
      obtain ⟨hm, f1, f2⟩ := fR_mem hf
      obtain ⟨j, hj⟩ := List.getElem?_of_mem hm
      have := uniq_eq hu hx hj ⟨e1.trans f1.symm, e2.trans f2.symm⟩
      subst this
      rw [hx] at hj; exact hj.symm

theorem l6At_at (a : Option Addr) (rs : List Rw) (n c : Nat) (t k r : Int) (w : World) (hn : rs.length = n) (hm : n ≤ 100000) (hr : Rs rwE 4 w a rs) (hu : Uniq rs) (hA : AtP rs t k r) (m : Nat) :
    Calls Try.prog 33 #[.slice a n c, .int .i64 t, .int .i64 k] (w.drewN m) fun e w' => e = .returned (.int .i64 r) ∧ w' = w.drewN m :=
  (l6At_any a rs n c t k (w.drewN m) hn hm (hr.below (w' := w.drewN m) (B := w.heap.size) ⟨rfl, rfl, rfl, Nat.le_refl _, fun _ _ => rfl⟩ (Nat.le_refl _))).mono (by
    rintro e w' ⟨r', rfl, h, rfl⟩
    exact ⟨by rw [atP_uniq hu h hA], rfl⟩)

theorem ownsRow_some {w : World} {base e size : Nat} {v : Value} {n : Nat} {xs : List Value} (h : w.ownsRow base e size v n xs) (hb : v.ownBlock ≠ none) : ∃ g cap, v = .slice (some ⟨g, 0, none⟩) n cap := by
  rcases h.2 with ⟨rfl, _⟩ | ⟨g, cap, cur, rfl, _⟩
  · exact absurd rfl hb
  · exact ⟨g, cap, rfl⟩

end Go.Proofs.Ytmbllmhpnopbdaa

/-
  The model's l6Do: a change done to rising rows.
-/
namespace Go.Proofs.Ytmbllmhpnopbdaa
open Go.RowKit Go.Maps
set_option linter.unusedVariables false

/-- What l6Do hands back. -/
def DoPost (rs : List Rw) (x : Chg) (w : World) (e : Ending) (w' : World) : Prop :=
  Below w.heap.size w w' ∧ ((fitB rs x = false ∧ e = .returned (.tuple #[.slice none 0 0, .bool false])) ∨ (fitB rs x = true ∧ ∃ g cap, e = .returned (.tuple #[.slice (some ⟨g, 0, none⟩) (doL rs x).length cap, .bool true]) ∧ w'.ownsRow w.heap.size 26 4 (.slice (some ⟨g, 0, none⟩) (doL rs x).length cap) (doL rs x).length (flat rwE (doL rs x))))

theorem atP_at {rs : List Rw} (hu : Uniq rs) {t k r : Int} (h : AtP rs t k r) {j : Nat} {y : Rw} (hy : rs[j]? = some y) : (y.t = t ∧ y.k = k) ↔ (j : Int) = r := by
  constructor
  · intro e
    exact atP_uniq hu (.inr ⟨j, y, rfl, hy, e.1, e.2⟩) h
  · rintro rfl
    rcases h with ⟨h, _⟩ | ⟨i, z, e, hz, e1, e2⟩
    · omega
    · have : j = i := by omega
      subst this
      rw [hy] at hz; cases hz; exact ⟨e1, e2⟩
theorem delL_snoc {rs : List Rw} {j : Nat} {y : Rw} (hy : rs[j]? = some y) (t k : Int) : delL (rs.take (j + 1)) t k = delL (rs.take j) t k ++ (if y.t = t ∧ y.k = k then [] else [y]) := by
  unfold delL
  rw [take_snoc hy, List.filter_append]
  congr 1
  by_cases e : y.t = t ∧ y.k = k
  · rw [if_pos e, List.filter_cons_of_neg (by simp [e])]; rfl
  · rw [if_neg e, List.filter_cons_of_pos (by by_cases e1 : y.t = t <;> by_cases e2 : y.k = k <;> simp [e1, e2] at e ⊢)]; rfl
theorem delL_le (rs : List Rw) (t k : Int) : (delL rs t k).length ≤ rs.length := List.length_filter_le _ _

end Go.Proofs.Ytmbllmhpnopbdaa

/-
  The model's l6Change.
-/
namespace Go.Proofs.Ytmbllmhpnopbdaa
open Go.RowKit Go.Maps
set_option linter.unusedVariables false

set_option maxRecDepth 20000 in
set_option maxHeartbeats 4000000 in
theorem l6Change_any (b o : Nat) (x : Chg) (w : World) (h : ChC w b o x) (hb : x.b.s.size ≤ maxLen) (ha : x.a.s.size ≤ maxLen) :
    Calls Try.prog 42 #[.pointer (some ⟨b, o, none⟩)] w fun e w' => e = .returned (.int .i64 (chQ x)) ∧ ∃ m, w' = w.drewN m := by
  have HF1 : Hid (∀ m, Calls Try.prog 55 #[.pointer (some ⟨b, o + 1, none⟩)] (w.drewN m) fun e w' => e = .returned (.int .i64 (rwF x.b)) ∧ w' = w.drewN m) := fun m => l1FaultO_any b (o + 1) x.b.t x.b.k x.b.v x.b.s (w.drewN m) (h.before.drews m) hb
  have HF2 : Hid (∀ m, Calls Try.prog 55 #[.pointer (some ⟨b, o + 6, none⟩)] (w.drewN m) fun e w' => e = .returned (.int .i64 (rwF x.a)) ∧ w' = w.drewN m) := fun m => l1FaultO_any b (o + 6) x.a.t x.a.k x.a.v x.a.s (w.drewN m) (h.after.drews m) ha
  obtain ⟨q1, hq1⟩ : ∃ q, q = rwF x.b := ⟨_, rfl⟩
  obtain ⟨q2, hq2⟩ : ∃ q, q = rwF x.a := ⟨_, rfl⟩
  have HQ1 : Hid (rwF x.b = q1) := hq1.symm
  have HQ2 : Hid (rwF x.a = q2) := hq2.symm
  rw [← hq1] at HF1
  rw [← hq2] at HF2
  clear hq1 hq2 hb ha
  obtain ⟨x0, ⟨bt, bk, bv, bs⟩, x5, ⟨at', ak, av, sa⟩⟩ := x
  obtain ⟨c0, c1, c2, c3, c4, c5, c6, c7, c8, c9⟩ := h
  dsimp only at c0 c1 c2 c3 c4 c5 c6 c7 c8 c9 HQ1 HQ2
  cases x0
  · cases x5
    · have HE : Hid (chQ ⟨false, ⟨bt, bk, bv, bs⟩, false, ⟨at', ak, av, sa⟩⟩ = 1) := by show _ = _; simp [chQ]
      go_enter Try.func42, Try.ntmps42
      go_upto_region 1 with (fail)
      go_quiet (fail)
      have hw : ∃ m, w.drewN nq = w.drewN m := ⟨nq, rfl⟩
      go_wp2_with fail
      go_ret
      exact ⟨by rw [HE.out]; rfl, hw⟩
    · have HE : Hid (chQ ⟨false, ⟨bt, bk, bv, bs⟩, true, ⟨at', ak, av, sa⟩⟩ = q2) := by show _ = _; rw [← HQ2.out]; simp [chQ]
      go_enter Try.func42, Try.ntmps42
      go_upto_region 1 with (fail)
      go_quiet (fail)
      have hw : ∃ m, w.drewN nq = w.drewN m := ⟨nq, rfl⟩
      go_wp2_with (go_at_call 55; refine (HF2.out _).mono ?_; rintro e w' ⟨rfl, rfl⟩)
      go_ret
      exact ⟨by rw [HE.out]; rfl, hw⟩
  · cases x5
    · by_cases hq : q1 = 0
      · have HE : Hid (chQ ⟨true, ⟨bt, bk, bv, bs⟩, false, ⟨at', ak, av, sa⟩⟩ = 0) := by show _ = _; simp [chQ, HQ1.out, hq]
        subst hq
        go_enter Try.func42, Try.ntmps42
        go_upto_region 1 with (fail)
        go_quiet (fail)
        have hw : ∃ m, w.drewN nq = w.drewN m := ⟨nq, rfl⟩
        go_wp2_with (go_at_call 55; refine (HF1.out _).mono ?_; rintro e w' ⟨rfl, rfl⟩)
        go_ret
        exact ⟨by rw [HE.out]; rfl, hw⟩
      · have HE : Hid (chQ ⟨true, ⟨bt, bk, bv, bs⟩, false, ⟨at', ak, av, sa⟩⟩ = q1) := by show _ = _; simp [chQ, HQ1.out, hq]
        have d : (q1 != 0) = true := by simpa using hq
        go_enter Try.func42, Try.ntmps42
        go_upto_region 1 with (fail)
        go_quiet (fail)
        have hw : ∃ m, w.drewN nq = w.drewN m := ⟨nq, rfl⟩
        go_wp2_with (go_at_call 55; refine (HF1.out _).mono ?_; rintro e w' ⟨rfl, rfl⟩)
        go_ret
        exact ⟨by rw [HE.out]; rfl, hw⟩
    · by_cases ht : bt = at'
      · subst ht
        by_cases hk : bk = ak
        · subst hk
          by_cases hq : q1 = 0
          · have HE : Hid (chQ ⟨true, ⟨bt, bk, bv, bs⟩, true, ⟨bt, bk, av, sa⟩⟩ = q2) := by show _ = _; simp [chQ, HQ1.out, hq, HQ2.out]
            subst hq
            go_enter Try.func42, Try.ntmps42
            go_upto_region 1 with (fail)
            go_quiet (fail)
            have hw : ∃ m, w.drewN nq = w.drewN m := ⟨nq, rfl⟩
            go_upto_region 7 with (go_at_call 55; refine (HF1.out _).mono ?_; rintro e w' ⟨rfl, rfl⟩)
            go_wp2_with (go_at_call 55; refine (HF2.out _).mono ?_; rintro e w' ⟨rfl, rfl⟩)
            go_ret
            exact ⟨by rw [HE.out]; rfl, hw⟩
          · have HE : Hid (chQ ⟨true, ⟨bt, bk, bv, bs⟩, true, ⟨bt, bk, av, sa⟩⟩ = q1) := by show _ = _; simp [chQ, HQ1.out, hq]
            have d : (q1 != 0) = true := by simpa using hq
            go_enter Try.func42, Try.ntmps42
            go_upto_region 1 with (fail)
            go_quiet (fail)
            have hw : ∃ m, w.drewN nq = w.drewN m := ⟨nq, rfl⟩
            go_wp2_with (go_at_call 55; refine (HF1.out _).mono ?_; rintro e w' ⟨rfl, rfl⟩)
            go_ret
            exact ⟨by rw [HE.out]; rfl, hw⟩
        · have HE : Hid (chQ ⟨true, ⟨bt, bk, bv, bs⟩, true, ⟨bt, ak, av, sa⟩⟩ = 1) := by show _ = _; simp [chQ, hk]
          have d : (bk != ak) = true := by simpa using hk
          go_enter Try.func42, Try.ntmps42
          go_upto_region 1 with (fail)
          go_quiet (fail)
          have hw : ∃ m, w.drewN nq = w.drewN m := ⟨nq, rfl⟩
          go_wp2_with fail
          go_ret
          exact ⟨by rw [HE.out]; rfl, hw⟩
      · have HE : Hid (chQ ⟨true, ⟨bt, bk, bv, bs⟩, true, ⟨at', ak, av, sa⟩⟩ = 1) := by show _ = _; simp [chQ, ht]
        have d : (bt != at') = true := by simpa using ht
        go_enter Try.func42, Try.ntmps42
        go_upto_region 1 with (fail)
        go_quiet (fail)
        have hw : ∃ m, w.drewN nq = w.drewN m := ⟨nq, rfl⟩
        go_wp2_with fail
        go_ret
        exact ⟨by rw [HE.out]; rfl, hw⟩

end Go.Proofs.Ytmbllmhpnopbdaa
