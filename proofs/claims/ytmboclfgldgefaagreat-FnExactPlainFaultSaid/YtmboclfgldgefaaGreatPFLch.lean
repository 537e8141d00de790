/-
  The model's l6Change.
-/
import Derived.Test.YtmboclfgldgefaaGreatPFRby
import Derived.BigQuiet
import Derived.Test.YtmboclfgldgefaaGreatPFLdo

namespace Go.Proofs.YtmboclfgldgefaaGreat
open Go.RowKit Go.Maps
set_option linter.unusedVariables false

set_option maxRecDepth 20000 in
set_option maxHeartbeats 4000000 in
theorem l6Change_any (b o : Nat) (x : Chg) (w : World) (h : ChC w b o x) (hb : x.b.s.size ≤ maxLen) (ha : x.a.s.size ≤ maxLen) :
    Calls Tryz.prog 118 #[.pointer (some ⟨b, o, none⟩)] w fun e w' => e = .returned (.int .i64 (chQ x)) ∧ ∃ m, w' = w.drewN m := by
  have HF1 : Hid (∀ m, Calls Tryz.prog 64 #[.pointer (some ⟨b, o + 1, none⟩)] (w.drewN m) fun e w' => e = .returned (.int .i64 (rwF x.b)) ∧ w' = w.drewN m) := fun m => l1FaultO_any b (o + 1) x.b.t x.b.k x.b.v x.b.s (w.drewN m) (h.before.drews m) hb
  have HF2 : Hid (∀ m, Calls Tryz.prog 64 #[.pointer (some ⟨b, o + 6, none⟩)] (w.drewN m) fun e w' => e = .returned (.int .i64 (rwF x.a)) ∧ w' = w.drewN m) := fun m => l1FaultO_any b (o + 6) x.a.t x.a.k x.a.v x.a.s (w.drewN m) (h.after.drews m) ha
  obtain ⟨q1, hq1⟩ : ∃ q, q = rwF x.b := ⟨_, rfl⟩
  obtain ⟨q2, hq2⟩ : ∃ q, q = rwF x.a := ⟨_, rfl⟩
  have HQ1 : Hid (rwF x.b = q1) := hq1.symm
  have HQ2 : Hid (rwF x.a = q2) := hq2.symm
  rw [← hq1] at HF1
  rw [← hq2] at HF2
  clear hq1 hq2 hb ha
  obtain ⟨x0, ⟨bt, bk, bv, bs⟩, x5, ⟨at', ak, av, sa⟩⟩ := x
  obtain ⟨c0, c1, c2, c3, c4, c5, c6, c7, c8, c9⟩ := h
  dsimp only at c0 c1 c2 c3 c4 c5 c6 c7 c8 c9 HQ1 HQ2
  cases x0
  · cases x5
    · have HE : Hid (chQ ⟨false, ⟨bt, bk, bv, bs⟩, false, ⟨at', ak, av, sa⟩⟩ = 1) := by show _ = _; simp [chQ]
      go_enter Tryz.func118, Tryz.ntmps118
      go_upto_region 1 with (fail)
      go_quiet (fail)
      have hw : ∃ m, w.drewN nq = w.drewN m := ⟨nq, rfl⟩
      go_wp2_with fail
      go_ret
      exact ⟨by rw [HE.out]; rfl, hw⟩
    · have HE : Hid (chQ ⟨false, ⟨bt, bk, bv, bs⟩, true, ⟨at', ak, av, sa⟩⟩ = q2) := by show _ = _; rw [← HQ2.out]; simp [chQ]
      go_enter Tryz.func118, Tryz.ntmps118
      go_upto_region 1 with (fail)
      go_quiet (fail)
      have hw : ∃ m, w.drewN nq = w.drewN m := ⟨nq, rfl⟩
      go_wp2_with (go_at_call 64; refine (HF2.out _).mono ?_; rintro e w' ⟨rfl, rfl⟩)
      go_ret
      exact ⟨by rw [HE.out]; rfl, hw⟩
  · cases x5
    · by_cases hq : q1 = 0
      · have HE : Hid (chQ ⟨true, ⟨bt, bk, bv, bs⟩, false, ⟨at', ak, av, sa⟩⟩ = 0) := by show _ = _; simp [chQ, HQ1.out, hq]
        subst hq
        go_enter Tryz.func118, Tryz.ntmps118
        go_upto_region 1 with (fail)
        go_quiet (fail)
        have hw : ∃ m, w.drewN nq = w.drewN m := ⟨nq, rfl⟩
        go_wp2_with (go_at_call 64; refine (HF1.out _).mono ?_; rintro e w' ⟨rfl, rfl⟩)
        go_ret
        exact ⟨by rw [HE.out]; rfl, hw⟩
      · have HE : Hid (chQ ⟨true, ⟨bt, bk, bv, bs⟩, false, ⟨at', ak, av, sa⟩⟩ = q1) := by show _ = _; simp [chQ, HQ1.out, hq]
        have d : (q1 != 0) = true := by simpa using hq
        go_enter Tryz.func118, Tryz.ntmps118
        go_upto_region 1 with (fail)
        go_quiet (fail)
        have hw : ∃ m, w.drewN nq = w.drewN m := ⟨nq, rfl⟩
        go_wp2_with (go_at_call 64; refine (HF1.out _).mono ?_; rintro e w' ⟨rfl, rfl⟩)
        go_ret
        exact ⟨by rw [HE.out]; rfl, hw⟩
    · by_cases ht : bt = at'
      · subst ht
        by_cases hk : bk = ak
        · subst hk
          by_cases hq : q1 = 0
          · have HE : Hid (chQ ⟨true, ⟨bt, bk, bv, bs⟩, true, ⟨bt, bk, av, sa⟩⟩ = q2) := by show _ = _; simp [chQ, HQ1.out, hq, HQ2.out]
            subst hq
            go_enter Tryz.func118, Tryz.ntmps118
            go_upto_region 1 with (fail)
            go_quiet (fail)
            have hw : ∃ m, w.drewN nq = w.drewN m := ⟨nq, rfl⟩
            go_upto_region 7 with (go_at_call 64; refine (HF1.out _).mono ?_; rintro e w' ⟨rfl, rfl⟩)
            go_wp2_with (go_at_call 64; refine (HF2.out _).mono ?_; rintro e w' ⟨rfl, rfl⟩)
            go_ret
            exact ⟨by rw [HE.out]; rfl, hw⟩
          · have HE : Hid (chQ ⟨true, ⟨bt, bk, bv, bs⟩, true, ⟨bt, bk, av, sa⟩⟩ = q1) := by show _ = _; simp [chQ, HQ1.out, hq]
            have d : (q1 != 0) = true := by simpa using hq
            go_enter Tryz.func118, Tryz.ntmps118
            go_upto_region 1 with (fail)
            go_quiet (fail)
            have hw : ∃ m, w.drewN nq = w.drewN m := ⟨nq, rfl⟩
            go_wp2_with (go_at_call 64; refine (HF1.out _).mono ?_; rintro e w' ⟨rfl, rfl⟩)
            go_ret
            exact ⟨by rw [HE.out]; rfl, hw⟩
        · have HE : Hid (chQ ⟨true, ⟨bt, bk, bv, bs⟩, true, ⟨bt, ak, av, sa⟩⟩ = 1) := by show _ = _; simp [chQ, hk]
          have d : (bk != ak) = true := by simpa using hk
          go_enter Tryz.func118, Tryz.ntmps118
          go_upto_region 1 with (fail)
          go_quiet (fail)
          have hw : ∃ m, w.drewN nq = w.drewN m := ⟨nq, rfl⟩
          go_wp2_with fail
          go_ret
          exact ⟨by rw [HE.out]; rfl, hw⟩
      · have HE : Hid (chQ ⟨true, ⟨bt, bk, bv, bs⟩, true, ⟨at', ak, av, sa⟩⟩ = 1) := by show _ = _; simp [chQ, ht]
        have d : (bt != at') = true := by simpa using ht
        go_enter Tryz.func118, Tryz.ntmps118
        go_upto_region 1 with (fail)
        go_quiet (fail)
        have hw : ∃ m, w.drewN nq = w.drewN m := ⟨nq, rfl⟩
        go_wp2_with fail
        go_ret
        exact ⟨by rw [HE.out]; rfl, hw⟩

end Go.Proofs.YtmboclfgldgefaaGreat

/-
  The model's ApplyChanges.
-/
namespace Go.Proofs.YtmboclfgldgefaaGreat
open Go.RowKit Go.Maps
set_option linter.unusedVariables false

theorem rowsQ_ris {rs : List Rw} (h : rowsQ rs = 0) : RisL rs ∧ rs.length ≤ 60 := by
  have h0 := rowsQ_zero h
  unfold rowsQ at h
  split at h
  · exact absurd h (by decide)
  · obtain ⟨h1, h2, _⟩ := rsF_zero rs none h
    exact ⟨⟨h2, fun r hr => rwF_zero (h1 r hr)⟩, h0.1⟩
def acQ (rs : List Rw) (cs : List Chg) : Int := if rowsQ rs = 0 then (if (apR rs cs).1 = 0 then (if 60 < (apR rs cs).2.length then 2 else 0) else (apR rs cs).1) else rowsQ rs
def acL (rs : List Rw) (cs : List Chg) : List Rw := if acQ rs cs = 0 then (apR rs cs).2 else []
theorem acQ_bad {rs : List Rw} {cs : List Chg} (h : rowsQ rs ≠ 0) : acQ rs cs = rowsQ rs := by unfold acQ; rw [if_neg h]
theorem acQ_code {rs : List Rw} {cs : List Chg} (h : rowsQ rs = 0) {q : Int} {l : List Rw} (ha : apR rs cs = (q, l)) (hq : q ≠ 0) : acQ rs cs = q := by unfold acQ; rw [if_pos h, ha]; simp [hq]
theorem acQ_end {rs : List Rw} {cs : List Chg} (h : rowsQ rs = 0) {l : List Rw} (ha : apR rs cs = (0, l)) : acQ rs cs = (if 60 < l.length then 2 else 0) := by unfold acQ; rw [if_pos h, ha]; simp
theorem acL_nil {rs : List Rw} {cs : List Chg} (h : acQ rs cs ≠ 0) : acL rs cs = [] := by unfold acL; rw [if_neg h]
theorem acL_len (rs : List Rw) (cs : List Chg) : (acL rs cs).length ≤ 60 := by
  unfold acL
  split
  · rename_i h
    unfold acQ at h
    split at h
    · split at h
      · split at h
        · exact absurd h (by decide)
        · omega
      · rename_i h1; exact absurd h h1
    · rename_i h1; exact absurd h h1
  · simp
/-- What ApplyChanges hands back. -/
def AcPost (rs : List Rw) (cs : List Chg) (w : World) (e : Ending) (w' : World) : Prop :=
  ∃ v, e = .returned (.agg #[.int .i64 (acQ rs cs), v]) ∧ Below w.heap.size w w' ∧ w'.ownsRow w.heap.size 76 4 v (acL rs cs).length (flat rwE (acL rs cs))
theorem AcPost.form {rs : List Rw} {cs : List Chg} {w w' : World} {e : Ending} (h : AcPost rs cs w e w') : ∃ a c, e = .returned (.agg #[.int .i64 (acQ rs cs), .slice a (acL rs cs).length c]) ∧ Below w.heap.size w w' ∧ SlIn rwE 4 w.heap.size w'.heap.size w' a (acL rs cs) := by
  obtain ⟨v, rfl, g, ho⟩ := h
  obtain ⟨a, c, rfl, _, hi, _⟩ := SlIn.ofRow rwE_len ho
  exact ⟨a, c, rfl, g, hi⟩
theorem AcPost.code {rs : List Rw} {cs : List Chg} {w w' : World} {q : Int} (hq : acQ rs cs = q) (h0 : q ≠ 0) (g : Below w.heap.size w w') : AcPost rs cs w (.returned (.agg #[.int .i64 q, .slice none 0 0])) w' := by
  refine ⟨_, by rw [hq], g, ?_⟩
  rw [acL_nil (by rw [hq]; exact h0)]
  exact ownsRow_nil _ _ _ _
theorem drop_chg {cs : List Chg} {j : Nat} {c : Chg} (h : cs[j]? = some c) : cs.drop j = c :: cs.drop (j + 1) := by
  obtain ⟨hl, e⟩ := List.getElem?_eq_some_iff.1 h
  rw [← e]; exact List.drop_eq_getElem_cons hl

end Go.Proofs.YtmboclfgldgefaaGreat
