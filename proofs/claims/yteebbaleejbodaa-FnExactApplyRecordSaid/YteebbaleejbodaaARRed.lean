/-
  The fault of a record: the model's.
-/
import Derived.Test.YteebbaleejbodaaARRec

namespace Go.Proofs.Yteebbaleejbodaa
open Go.RowKit
set_option linter.unusedVariables false

/-- Four cells of a record at block b. -/
structure RcAt (V : World) (b : Nat) (k tx pg : Int) (a : Option Addr) (n c : Nat) : Prop where
  c0 : V.cell? ⟨b, 0, none⟩ = some (.int .i64 k)
  c1 : V.cell? ⟨b, 1, none⟩ = some (.int .i64 tx)
  c2 : V.cell? ⟨b, 2, none⟩ = some (.int .i64 pg)
  c3 : V.cell? ⟨b, 3, none⟩ = some (.slice a n c)
theorem RcAt.up {V W : World} {b : Nat} {k tx pg : Int} {a : Option Addr} {n c : Nat} (h : RcAt V b k tx pg a n c) (hb : Below V.heap.size V W) : RcAt W b k tx pg a n c :=
  ⟨cellUp hb h.c0, cellUp hb h.c1, cellUp hb h.c2, cellUp hb h.c3⟩

set_option maxHeartbeats 400000 in
theorem l4Runs_any (k : Int) (w : World) : Calls Try.prog 77 #[.int .i64 k] w fun e w' => e = .returned (.bool (inR k 2 4)) ∧ w' = w := by
  go_enter Try.func77, Try.ntmps77
  go_wp2_with fail
  refine (l1In_any k 2 4 _).mono ?_
  rintro e w' ⟨rfl, rfl⟩
  go_wp2_with fail
  go_ret
  exact ⟨rfl, rfl⟩

set_option maxHeartbeats 1000000 in
theorem l4Fault_1 (b : Nat) (tx pg : Int) (a : Option Addr) (n c : Nat) (P : Nat → Int) (A : Nat → Option Addr) (C : Nat → Nat) (Z : Nat → List Int) (w : World) (hm : n ≤ 1048576) (hz : Hid (∀ i, i < n → (Z i).length ≤ 1048576)) (hr : RunsRead w a n P A C Z) (h : RcAt w b 1 tx pg a n c) :
    Calls Try.prog 76 #[.pointer (some ⟨b, 0, none⟩)] w fun e w' => e = .returned (.int .i64 (recQ 1 tx pg n P Z)) ∧ ∃ q, w' = w.drewN q := by
  obtain ⟨c0, c1, c2, c3⟩ := h
  by_cases h1 : pg = 0
  · subst h1
    by_cases h2 : n = 0
    · subst h2
      cases h3 : inR tx 1 99
      · have HQ : Hid (recQ 1 tx 0 0 P Z = 3) := by show _ = _; unfold recQ txQ muchB; rw [if_pos (by decide), h3]; rfl
        go_enter Try.func76, Try.ntmps76
        go_wp2_with fail
        refine (l1In_any 1 1 6 _).mono ?_
        rintro e w' ⟨rfl, hw'⟩
        subst w'
        rw [show inR 1 1 6 = true from rfl]
        go_wp2_with fail
        refine (l4Runs_any 1 _).mono ?_
        rintro e w' ⟨rfl, hw'⟩
        subst w'
        rw [show inR 1 2 4 = false from rfl]
        go_wp2_with fail
        refine (l1In_any tx 1 99 _).mono ?_
        rintro e w' ⟨rfl, hw'⟩
        subst w'
        rw [h3]
        clear h3
        go_wp2_with fail
        go_ret
        exact ⟨by rw [HQ.out]; rfl, 0, rfl⟩
      · have HQ : Hid (recQ 1 tx 0 0 P Z = 0) := by show _ = _; unfold recQ txQ muchB; rw [if_pos (by decide), h3]; rfl
        go_enter Try.func76, Try.ntmps76
        go_wp2_with fail
        refine (l1In_any 1 1 6 _).mono ?_
        rintro e w' ⟨rfl, hw'⟩
        subst w'
        rw [show inR 1 1 6 = true from rfl]
        go_wp2_with fail
        refine (l4Runs_any 1 _).mono ?_
        rintro e w' ⟨rfl, hw'⟩
        subst w'
        rw [show inR 1 2 4 = false from rfl]
        go_wp2_with fail
        refine (l1In_any tx 1 99 _).mono ?_
        rintro e w' ⟨rfl, hw'⟩
        subst w'
        rw [h3]
        clear h3
        go_wp2_with fail
        refine (l1In_any 0 0 11 _).mono ?_
        rintro e w' ⟨rfl, hw'⟩
        subst w'
        rw [show inR 0 0 11 = true from rfl]
        go_wp2_with fail
        refine (l4Runs_any 1 _).mono ?_
        rintro e w' ⟨rfl, hw'⟩
        subst w'
        rw [show inR 1 2 4 = false from rfl]
        go_wp2_with fail
        go_ret
        exact ⟨by rw [HQ.out]; rfl, 0, rfl⟩
    · have hn0 : 0 < n := by omega
      have HQ : Hid (recQ 1 tx 0 n P Z = 1) := by show _ = _; unfold recQ muchB; rw [if_pos (by decide)]; simp [hn0]
      have d : (0 : Int) < (n : Int) := by omega
      have d2 : decide ((0 : Int) < (n : Int)) = true := by simpa using d
      go_enter Try.func76, Try.ntmps76
      go_wp2_with fail
      refine (l1In_any 1 1 6 _).mono ?_
      rintro e w' ⟨rfl, hw'⟩
      subst w'
      rw [show inR 1 1 6 = true from rfl]
      go_wp2_with fail
      refine (l4Runs_any 1 _).mono ?_
      rintro e w' ⟨rfl, hw'⟩
      subst w'
      rw [show inR 1 2 4 = false from rfl]
      go_wp2_with fail
      go_ret
      exact ⟨by rw [HQ.out]; rfl, 0, rfl⟩
  · have d : (pg != 0) = true := by simpa using h1
    have HQ : Hid (recQ 1 tx pg n P Z = 1) := by show _ = _; unfold recQ muchB; rw [if_pos (by decide), d]; rfl
    clear h1
    go_enter Try.func76, Try.ntmps76
    go_wp2_with fail
    refine (l1In_any 1 1 6 _).mono ?_
    rintro e w' ⟨rfl, hw'⟩
    subst w'
    rw [show inR 1 1 6 = true from rfl]
    go_wp2_with fail
    refine (l4Runs_any 1 _).mono ?_
    rintro e w' ⟨rfl, hw'⟩
    subst w'
    rw [show inR 1 2 4 = false from rfl]
    go_wp2_with fail
    go_ret
    exact ⟨by rw [HQ.out]; rfl, 0, rfl⟩

set_option maxHeartbeats 1000000 in
theorem l4Fault_5 (b : Nat) (tx pg : Int) (a : Option Addr) (n c : Nat) (P : Nat → Int) (A : Nat → Option Addr) (C : Nat → Nat) (Z : Nat → List Int) (w : World) (hm : n ≤ 1048576) (hz : Hid (∀ i, i < n → (Z i).length ≤ 1048576)) (hr : RunsRead w a n P A C Z) (h : RcAt w b 5 tx pg a n c) :
    Calls Try.prog 76 #[.pointer (some ⟨b, 0, none⟩)] w fun e w' => e = .returned (.int .i64 (recQ 5 tx pg n P Z)) ∧ ∃ q, w' = w.drewN q := by
  obtain ⟨c0, c1, c2, c3⟩ := h
  by_cases h1 : pg = 0
  · subst h1
    by_cases h2 : n = 0
    · subst h2
      cases h3 : inR tx 1 99
      · have HQ : Hid (recQ 5 tx 0 0 P Z = 3) := by show _ = _; unfold recQ txQ muchB; rw [if_pos (by decide), h3]; rfl
        go_enter Try.func76, Try.ntmps76
        go_wp2_with fail
        refine (l1In_any 5 1 6 _).mono ?_
        rintro e w' ⟨rfl, hw'⟩
        subst w'
        rw [show inR 5 1 6 = true from rfl]
        go_wp2_with fail
        refine (l4Runs_any 5 _).mono ?_
        rintro e w' ⟨rfl, hw'⟩
        subst w'
        rw [show inR 5 2 4 = false from rfl]
        go_wp2_with fail
        refine (l1In_any tx 1 99 _).mono ?_
        rintro e w' ⟨rfl, hw'⟩
        subst w'
        rw [h3]
        clear h3
        go_wp2_with fail
        go_ret
        exact ⟨by rw [HQ.out]; rfl, 0, rfl⟩
      · have HQ : Hid (recQ 5 tx 0 0 P Z = 0) := by show _ = _; unfold recQ txQ muchB; rw [if_pos (by decide), h3]; rfl
        go_enter Try.func76, Try.ntmps76
        go_wp2_with fail
        refine (l1In_any 5 1 6 _).mono ?_
        rintro e w' ⟨rfl, hw'⟩
        subst w'
        rw [show inR 5 1 6 = true from rfl]
        go_wp2_with fail
        refine (l4Runs_any 5 _).mono ?_
        rintro e w' ⟨rfl, hw'⟩
        subst w'
        rw [show inR 5 2 4 = false from rfl]
        go_wp2_with fail
        refine (l1In_any tx 1 99 _).mono ?_
        rintro e w' ⟨rfl, hw'⟩
        subst w'
        rw [h3]
        clear h3
        go_wp2_with fail
        refine (l1In_any 0 0 11 _).mono ?_
        rintro e w' ⟨rfl, hw'⟩
        subst w'
        rw [show inR 0 0 11 = true from rfl]
        go_wp2_with fail
        refine (l4Runs_any 5 _).mono ?_
        rintro e w' ⟨rfl, hw'⟩
        subst w'
        rw [show inR 5 2 4 = false from rfl]
        go_wp2_with fail
        go_ret
        exact ⟨by rw [HQ.out]; rfl, 0, rfl⟩
    · have hn0 : 0 < n := by omega
      have HQ : Hid (recQ 5 tx 0 n P Z = 1) := by show _ = _; unfold recQ muchB; rw [if_pos (by decide)]; simp [hn0]
      have d : (0 : Int) < (n : Int) := by omega
      have d2 : decide ((0 : Int) < (n : Int)) = true := by simpa using d
      go_enter Try.func76, Try.ntmps76
      go_wp2_with fail
      refine (l1In_any 5 1 6 _).mono ?_
      rintro e w' ⟨rfl, hw'⟩
      subst w'
      rw [show inR 5 1 6 = true from rfl]
      go_wp2_with fail
      refine (l4Runs_any 5 _).mono ?_
      rintro e w' ⟨rfl, hw'⟩
      subst w'
      rw [show inR 5 2 4 = false from rfl]
      go_wp2_with fail
      go_ret
      exact ⟨by rw [HQ.out]; rfl, 0, rfl⟩
  · have d : (pg != 0) = true := by simpa using h1
    have HQ : Hid (recQ 5 tx pg n P Z = 1) := by show _ = _; unfold recQ muchB; rw [if_pos (by decide), d]; rfl
    clear h1
    go_enter Try.func76, Try.ntmps76
    go_wp2_with fail
    refine (l1In_any 5 1 6 _).mono ?_
    rintro e w' ⟨rfl, hw'⟩
    subst w'
    rw [show inR 5 1 6 = true from rfl]
    go_wp2_with fail
    refine (l4Runs_any 5 _).mono ?_
    rintro e w' ⟨rfl, hw'⟩
    subst w'
    rw [show inR 5 2 4 = false from rfl]
    go_wp2_with fail
    go_ret
    exact ⟨by rw [HQ.out]; rfl, 0, rfl⟩

set_option maxHeartbeats 1000000 in
theorem l4Fault_6 (b : Nat) (tx pg : Int) (a : Option Addr) (n c : Nat) (P : Nat → Int) (A : Nat → Option Addr) (C : Nat → Nat) (Z : Nat → List Int) (w : World) (hm : n ≤ 1048576) (hz : Hid (∀ i, i < n → (Z i).length ≤ 1048576)) (hr : RunsRead w a n P A C Z) (h : RcAt w b 6 tx pg a n c) :
    Calls Try.prog 76 #[.pointer (some ⟨b, 0, none⟩)] w fun e w' => e = .returned (.int .i64 (recQ 6 tx pg n P Z)) ∧ ∃ q, w' = w.drewN q := by
  obtain ⟨c0, c1, c2, c3⟩ := h
  by_cases h1 : pg = 0
  · subst h1
    by_cases h2 : n = 0
    · subst h2
      cases h3 : inR tx 1 99
      · have HQ : Hid (recQ 6 tx 0 0 P Z = 3) := by show _ = _; unfold recQ txQ muchB; rw [if_pos (by decide), h3]; rfl
        go_enter Try.func76, Try.ntmps76
        go_wp2_with fail
        refine (l1In_any 6 1 6 _).mono ?_
        rintro e w' ⟨rfl, hw'⟩
        subst w'
        rw [show inR 6 1 6 = true from rfl]
        go_wp2_with fail
        refine (l4Runs_any 6 _).mono ?_
        rintro e w' ⟨rfl, hw'⟩
        subst w'
        rw [show inR 6 2 4 = false from rfl]
        go_wp2_with fail
        refine (l1In_any tx 1 99 _).mono ?_
        rintro e w' ⟨rfl, hw'⟩
        subst w'
        rw [h3]
        clear h3
        go_wp2_with fail
        go_ret
        exact ⟨by rw [HQ.out]; rfl, 0, rfl⟩
      · have HQ : Hid (recQ 6 tx 0 0 P Z = 0) := by show _ = _; unfold recQ txQ muchB; rw [if_pos (by decide), h3]; rfl
        go_enter Try.func76, Try.ntmps76
        go_wp2_with fail
        refine (l1In_any 6 1 6 _).mono ?_
        rintro e w' ⟨rfl, hw'⟩
        subst w'
        rw [show inR 6 1 6 = true from rfl]
        go_wp2_with fail
        refine (l4Runs_any 6 _).mono ?_
        rintro e w' ⟨rfl, hw'⟩
        subst w'
        rw [show inR 6 2 4 = false from rfl]
        go_wp2_with fail
        refine (l1In_any tx 1 99 _).mono ?_
        rintro e w' ⟨rfl, hw'⟩
        subst w'
        rw [h3]
        clear h3
        go_wp2_with fail
        refine (l1In_any 0 0 11 _).mono ?_
        rintro e w' ⟨rfl, hw'⟩
        subst w'
        rw [show inR 0 0 11 = true from rfl]
        go_wp2_with fail
        refine (l4Runs_any 6 _).mono ?_
        rintro e w' ⟨rfl, hw'⟩
        subst w'
        rw [show inR 6 2 4 = false from rfl]
        go_wp2_with fail
        go_ret
        exact ⟨by rw [HQ.out]; rfl, 0, rfl⟩
    · have hn0 : 0 < n := by omega
      have HQ : Hid (recQ 6 tx 0 n P Z = 1) := by show _ = _; unfold recQ muchB; rw [if_pos (by decide)]; simp [hn0]
      have d : (0 : Int) < (n : Int) := by omega
      have d2 : decide ((0 : Int) < (n : Int)) = true := by simpa using d
      go_enter Try.func76, Try.ntmps76
      go_wp2_with fail
      refine (l1In_any 6 1 6 _).mono ?_
      rintro e w' ⟨rfl, hw'⟩
      subst w'
      rw [show inR 6 1 6 = true from rfl]
      go_wp2_with fail
      refine (l4Runs_any 6 _).mono ?_
      rintro e w' ⟨rfl, hw'⟩
      subst w'
      rw [show inR 6 2 4 = false from rfl]
      go_wp2_with fail
      go_ret
      exact ⟨by rw [HQ.out]; rfl, 0, rfl⟩
  · have d : (pg != 0) = true := by simpa using h1
    have HQ : Hid (recQ 6 tx pg n P Z = 1) := by show _ = _; unfold recQ muchB; rw [if_pos (by decide), d]; rfl
    clear h1
    go_enter Try.func76, Try.ntmps76
    go_wp2_with fail
    refine (l1In_any 6 1 6 _).mono ?_
    rintro e w' ⟨rfl, hw'⟩
    subst w'
    rw [show inR 6 1 6 = true from rfl]
    go_wp2_with fail
    refine (l4Runs_any 6 _).mono ?_
    rintro e w' ⟨rfl, hw'⟩
    subst w'
    rw [show inR 6 2 4 = false from rfl]
    go_wp2_with fail
    go_ret
    exact ⟨by rw [HQ.out]; rfl, 0, rfl⟩

set_option maxHeartbeats 1000000 in
theorem l4Fault_2 (b : Nat) (tx pg : Int) (a : Option Addr) (n c : Nat) (P : Nat → Int) (A : Nat → Option Addr) (C : Nat → Nat) (Z : Nat → List Int) (w : World) (hm : n ≤ 1048576) (hz : Hid (∀ i, i < n → (Z i).length ≤ 1048576)) (hr : RunsRead w a n P A C Z) (h : RcAt w b 2 tx pg a n c) :
    Calls Try.prog 76 #[.pointer (some ⟨b, 0, none⟩)] w fun e w' => e = .returned (.int .i64 (recQ 2 tx pg n P Z)) ∧ ∃ q, w' = w.drewN q := by
  obtain ⟨c0, c1, c2, c3⟩ := h
  have HQ0 : Hid (recQ 2 tx pg n P Z = deQ tx pg n P Z) := by show _ = _; unfold recQ; rw [if_neg (by decide), if_pos (by decide)]
  cases h1 : inR tx 1 99
  · have HQ : Hid (recQ 2 tx pg n P Z = 3) := by show _ = _; rw [HQ0.out]; unfold deQ or2 txQ; rw [h1]; rfl
    go_enter Try.func76, Try.ntmps76
    go_wp2_with fail
    refine (l1In_any 2 1 6 _).mono ?_
    rintro e w' ⟨rfl, hw'⟩
    subst w'
    rw [show inR 2 1 6 = true from rfl]
    go_wp2_with fail
    refine (l4Runs_any 2 _).mono ?_
    rintro e w' ⟨rfl, hw'⟩
    subst w'
    rw [show inR 2 2 4 = true from rfl]
    go_wp2_with fail
    refine (l1In_any tx 1 99 _).mono ?_
    rintro e w' ⟨rfl, hw'⟩
    subst w'
    rw [h1]
    clear h1
    go_wp2_with fail
    go_ret
    exact ⟨by rw [HQ.out]; rfl, 0, rfl⟩
  · cases h2 : inR pg 0 11
    · have HQ : Hid (recQ 2 tx pg n P Z = 3) := by show _ = _; rw [HQ0.out]; unfold deQ or2 txQ pgQ; rw [h1, h2]; rfl
      go_enter Try.func76, Try.ntmps76
      go_wp2_with fail
      refine (l1In_any 2 1 6 _).mono ?_
      rintro e w' ⟨rfl, hw'⟩
      subst w'
      rw [show inR 2 1 6 = true from rfl]
      go_wp2_with fail
      refine (l4Runs_any 2 _).mono ?_
      rintro e w' ⟨rfl, hw'⟩
      subst w'
      rw [show inR 2 2 4 = true from rfl]
      go_wp2_with fail
      refine (l1In_any tx 1 99 _).mono ?_
      rintro e w' ⟨rfl, hw'⟩
      subst w'
      rw [h1]
      clear h1
      go_wp2_with fail
      refine (l1In_any pg 0 11 _).mono ?_
      rintro e w' ⟨rfl, hw'⟩
      subst w'
      rw [h2]
      clear h2
      go_wp2_with fail
      go_ret
      exact ⟨by rw [HQ.out]; rfl, 0, rfl⟩
    · have HQ1 : Hid (recQ 2 tx pg n P Z = if rfQ n P Z = 0 then (if n = 0 then 1 else 0) else rfQ n P Z) := by show _ = _; rw [HQ0.out]; unfold deQ or2 txQ pgQ; rw [h1, h2]; rfl
      clear HQ0
      go_enter Try.func76, Try.ntmps76
      go_wp2_with fail
      refine (l1In_any 2 1 6 _).mono ?_
      rintro e w' ⟨rfl, hw'⟩
      subst w'
      rw [show inR 2 1 6 = true from rfl]
      go_wp2_with fail
      refine (l4Runs_any 2 _).mono ?_
      rintro e w' ⟨rfl, hw'⟩
      subst w'
      rw [show inR 2 2 4 = true from rfl]
      go_wp2_with fail
      refine (l1In_any tx 1 99 _).mono ?_
      rintro e w' ⟨rfl, hw'⟩
      subst w'
      rw [h1]
      clear h1
      go_wp2_with fail
      refine (l1In_any pg 0 11 _).mono ?_
      rintro e w' ⟨rfl, hw'⟩
      subst w'
      rw [h2]
      clear h2
      go_wp2_with fail
      refine (l4Runs_any 2 _).mono ?_
      rintro e w' ⟨rfl, hw'⟩
      subst w'
      rw [show inR 2 2 4 = true from rfl]
      go_wp2_with fail
      refine (l3Fault_any a n c P A C Z _ hm hz.out hr).mono ?_
      rintro e w' ⟨rfl, q, rfl⟩
      by_cases h3 : rfQ n P Z = 0
      · rw [h3]
        by_cases h4 : n = 0
        · have HQ : Hid (recQ 2 tx pg n P Z = 1) := by show _ = _; rw [HQ1.out, if_pos h3, if_pos h4]
          subst h4
          clear h3
          go_wp2_with fail
          go_ret
          exact ⟨by rw [HQ.out]; rfl, q, rfl⟩
        · have HQ : Hid (recQ 2 tx pg n P Z = 0) := by show _ = _; rw [HQ1.out, if_pos h3, if_neg h4]
          have d4 : ((n : Int) == 0) = false := by simp; omega
          clear h3 HQ1
          go_wp2_with fail
          go_ret
          exact ⟨by rw [HQ.out]; rfl, q, rfl⟩
      · have HQ : Hid (recQ 2 tx pg n P Z = rfQ n P Z) := by show _ = _; rw [HQ1.out, if_neg h3]
        have d3 : (rfQ n P Z != 0) = true := by simpa using h3
        generalize rfQ n P Z = r at HQ d3 ⊢
        clear h3 HQ1
        go_wp2_with fail
        go_ret
        exact ⟨by rw [HQ.out]; rfl, q, rfl⟩

set_option maxHeartbeats 1000000 in
theorem l4Fault_3 (b : Nat) (tx pg : Int) (a : Option Addr) (n c : Nat) (P : Nat → Int) (A : Nat → Option Addr) (C : Nat → Nat) (Z : Nat → List Int) (w : World) (hm : n ≤ 1048576) (hz : Hid (∀ i, i < n → (Z i).length ≤ 1048576)) (hr : RunsRead w a n P A C Z) (h : RcAt w b 3 tx pg a n c) :
    Calls Try.prog 76 #[.pointer (some ⟨b, 0, none⟩)] w fun e w' => e = .returned (.int .i64 (recQ 3 tx pg n P Z)) ∧ ∃ q, w' = w.drewN q := by
  obtain ⟨c0, c1, c2, c3⟩ := h
  have HQ0 : Hid (recQ 3 tx pg n P Z = deQ tx pg n P Z) := by show _ = _; unfold recQ; rw [if_neg (by decide), if_pos (by decide)]
  cases h1 : inR tx 1 99
  · have HQ : Hid (recQ 3 tx pg n P Z = 3) := by show _ = _; rw [HQ0.out]; unfold deQ or2 txQ; rw [h1]; rfl
    go_enter Try.func76, Try.ntmps76
    go_wp2_with fail
    refine (l1In_any 3 1 6 _).mono ?_
    rintro e w' ⟨rfl, hw'⟩
    subst w'
    rw [show inR 3 1 6 = true from rfl]
    go_wp2_with fail
    refine (l4Runs_any 3 _).mono ?_
    rintro e w' ⟨rfl, hw'⟩
    subst w'
    rw [show inR 3 2 4 = true from rfl]
    go_wp2_with fail
    refine (l1In_any tx 1 99 _).mono ?_
    rintro e w' ⟨rfl, hw'⟩
    subst w'
    rw [h1]
    clear h1
    go_wp2_with fail
    go_ret
    exact ⟨by rw [HQ.out]; rfl, 0, rfl⟩
  · cases h2 : inR pg 0 11
    · have HQ : Hid (recQ 3 tx pg n P Z = 3) := by show _ = _; rw [HQ0.out]; unfold deQ or2 txQ pgQ; rw [h1, h2]; rfl
      go_enter Try.func76, Try.ntmps76
      go_wp2_with fail
      refine (l1In_any 3 1 6 _).mono ?_
      rintro e w' ⟨rfl, hw'⟩
      subst w'
      rw [show inR 3 1 6 = true from rfl]
      go_wp2_with fail
      refine (l4Runs_any 3 _).mono ?_
      rintro e w' ⟨rfl, hw'⟩
      subst w'
      rw [show inR 3 2 4 = true from rfl]
      go_wp2_with fail
      refine (l1In_any tx 1 99 _).mono ?_
      rintro e w' ⟨rfl, hw'⟩
      subst w'
      rw [h1]
      clear h1
      go_wp2_with fail
      refine (l1In_any pg 0 11 _).mono ?_
      rintro e w' ⟨rfl, hw'⟩
      subst w'
      rw [h2]
      clear h2
      go_wp2_with fail
      go_ret
      exact ⟨by rw [HQ.out]; rfl, 0, rfl⟩
    · have HQ1 : Hid (recQ 3 tx pg n P Z = if rfQ n P Z = 0 then (if n = 0 then 1 else 0) else rfQ n P Z) := by show _ = _; rw [HQ0.out]; unfold deQ or2 txQ pgQ; rw [h1, h2]; rfl
      clear HQ0
      go_enter Try.func76, Try.ntmps76
      go_wp2_with fail
      refine (l1In_any 3 1 6 _).mono ?_
      rintro e w' ⟨rfl, hw'⟩
      subst w'
      rw [show inR 3 1 6 = true from rfl]
      go_wp2_with fail
      refine (l4Runs_any 3 _).mono ?_
      rintro e w' ⟨rfl, hw'⟩
      subst w'
      rw [show inR 3 2 4 = true from rfl]
      go_wp2_with fail
      refine (l1In_any tx 1 99 _).mono ?_
      rintro e w' ⟨rfl, hw'⟩
      subst w'
      rw [h1]
      clear h1
      go_wp2_with fail
      refine (l1In_any pg 0 11 _).mono ?_
      rintro e w' ⟨rfl, hw'⟩
      subst w'
      rw [h2]
      clear h2
      go_wp2_with fail
      refine (l4Runs_any 3 _).mono ?_
      rintro e w' ⟨rfl, hw'⟩
      subst w'
      rw [show inR 3 2 4 = true from rfl]
      go_wp2_with fail
      refine (l3Fault_any a n c P A C Z _ hm hz.out hr).mono ?_
      rintro e w' ⟨rfl, q, rfl⟩
      by_cases h3 : rfQ n P Z = 0
      · rw [h3]
        by_cases h4 : n = 0
        · have HQ : Hid (recQ 3 tx pg n P Z = 1) := by show _ = _; rw [HQ1.out, if_pos h3, if_pos h4]
          subst h4
          clear h3
          go_wp2_with fail
          go_ret
          exact ⟨by rw [HQ.out]; rfl, q, rfl⟩
        · have HQ : Hid (recQ 3 tx pg n P Z = 0) := by show _ = _; rw [HQ1.out, if_pos h3, if_neg h4]
          have d4 : ((n : Int) == 0) = false := by simp; omega
          clear h3 HQ1
          go_wp2_with fail
          go_ret
          exact ⟨by rw [HQ.out]; rfl, q, rfl⟩
      · have HQ : Hid (recQ 3 tx pg n P Z = rfQ n P Z) := by show _ = _; rw [HQ1.out, if_neg h3]
        have d3 : (rfQ n P Z != 0) = true := by simpa using h3
        generalize rfQ n P Z = r at HQ d3 ⊢
        clear h3 HQ1
        go_wp2_with fail
        go_ret
        exact ⟨by rw [HQ.out]; rfl, q, rfl⟩

theorem rf_one {n : Nat} {P : Nat → Int} {Z : Nat → List Int} (h : rfQ n P Z = 0) (h0 : n ≠ 0) (hl : (Z 0).length = 64) : n = 1 := by
  unfold rfQ at h
  split at h
  · cases h
  · obtain ⟨m, rfl⟩ : ∃ m, n = m + 1 := ⟨n - 1, by omega⟩
    simp only [rfFrom] at h
    split at h
    · rename_i h1
      have z1 := runQ_zero h1
      by_cases e : m = 0
      · omega
      · obtain ⟨j, rfl⟩ : ∃ j, m = j + 1 := ⟨m - 1, by omega⟩
        simp only [rfFrom] at h
        split at h
        · rename_i h2
          have z2 := runQ_zero h2
          simp only [lst] at z2
          omega
        · rename_i h2
          exact absurd h h2
    · rename_i h1
      exact absurd h h1

set_option maxHeartbeats 1000000 in
theorem l4Fault_4 (b : Nat) (tx pg : Int) (a : Option Addr) (n c : Nat) (P : Nat → Int) (A : Nat → Option Addr) (C : Nat → Nat) (Z : Nat → List Int) (w : World) (hm : n ≤ 1048576) (hz : Hid (∀ i, i < n → (Z i).length ≤ 1048576)) (hr : RunsRead w a n P A C Z) (h : RcAt w b 4 tx pg a n c) :
    Calls Try.prog 76 #[.pointer (some ⟨b, 0, none⟩)] w fun e w' => e = .returned (.int .i64 (recQ 4 tx pg n P Z)) ∧ ∃ q, w' = w.drewN q := by
  obtain ⟨c0, c1, c2, c3⟩ := h
  by_cases h1 : tx = 0
  · subst h1
    have HQ0 : Hid (recQ 4 0 pg n P Z = imQ pg n P Z) := by show _ = _; unfold recQ; rw [if_neg (by decide), if_neg (by decide), if_pos rfl, if_neg (by decide)]
    cases h2 : inR pg 0 11
    · have HQ : Hid (recQ 4 0 pg n P Z = 3) := by show _ = _; rw [HQ0.out]; unfold imQ or2 pgQ; rw [h2]; rfl
      go_enter Try.func76, Try.ntmps76
      go_wp2_with fail
      refine (l1In_any 4 1 6 _).mono ?_
      rintro e w' ⟨rfl, hw'⟩
      subst w'
      rw [show inR 4 1 6 = true from rfl]
      go_wp2_with fail
      refine (l4Runs_any 4 _).mono ?_
      rintro e w' ⟨rfl, hw'⟩
      subst w'
      rw [show inR 4 2 4 = true from rfl]
      go_wp2_with fail
      refine (l1In_any pg 0 11 _).mono ?_
      rintro e w' ⟨rfl, hw'⟩
      subst w'
      rw [h2]
      clear h2
      go_wp2_with fail
      go_ret
      exact ⟨by rw [HQ.out]; rfl, 0, rfl⟩
    · have HQ1 : Hid (recQ 4 0 pg n P Z = if rfQ n P Z = 0 then (if n = 1 ∧ (Z 0).length = 64 then 0 else 1) else rfQ n P Z) := by show _ = _; rw [HQ0.out]; unfold imQ or2 pgQ; rw [h2]; rfl
      clear HQ0
      go_enter Try.func76, Try.ntmps76
      go_wp2_with fail
      refine (l1In_any 4 1 6 _).mono ?_
      rintro e w' ⟨rfl, hw'⟩
      subst w'
      rw [show inR 4 1 6 = true from rfl]
      go_wp2_with fail
      refine (l4Runs_any 4 _).mono ?_
      rintro e w' ⟨rfl, hw'⟩
      subst w'
      rw [show inR 4 2 4 = true from rfl]
      go_wp2_with fail
      refine (l1In_any pg 0 11 _).mono ?_
      rintro e w' ⟨rfl, hw'⟩
      subst w'
      rw [h2]
      clear h2
      go_wp2_with fail
      refine (l4Runs_any 4 _).mono ?_
      rintro e w' ⟨rfl, hw'⟩
      subst w'
      rw [show inR 4 2 4 = true from rfl]
      go_wp2_with fail
      refine (l3Fault_any a n c P A C Z _ hm hz.out hr).mono ?_
      rintro e w' ⟨rfl, q, rfl⟩
      by_cases h3 : rfQ n P Z = 0
      · rw [h3]
        by_cases h4 : n = 0
        · have HQ : Hid (recQ 4 0 pg n P Z = 1) := by show _ = _; rw [HQ1.out, if_pos h3, if_neg (by omega)]
          subst h4
          clear h3
          go_wp2_with fail
          go_ret
          exact ⟨by rw [HQ.out]; rfl, q, rfl⟩
        · have d4 : ((n : Int) == 0) = false := by simp; omega
          have hone := rf_one h3 h4
          have hn0 : 0 < n := by omega
          have hn1 : (0 : Int) < (n : Int) := by omega
          rcases hr with hr | ⟨rb, ro, rfl, hc⟩
          · exact absurd hr h4
          obtain ⟨_, e1, _⟩ := hc 0 hn0
          rw [Nat.zero_mul, Nat.add_zero] at e1
          have hz0 := hz.out 0 hn0
          clear hc
          by_cases hl : (Z 0).length = 64
          · have HQ : Hid (recQ 4 0 pg n P Z = 0) := by show _ = _; rw [HQ1.out, if_pos h3, if_pos ⟨hone hl, hl⟩]
            rw [hl] at e1
            clear h3 HQ1 hone hl hz0
            go_wp2_with fail
            go_ret
            exact ⟨by rw [HQ.out]; rfl, q, rfl⟩
          · have HQ : Hid (recQ 4 0 pg n P Z = 1) := by show _ = _; rw [HQ1.out, if_pos h3, if_neg (fun h => hl h.2)]
            have dl : (((Z 0).length : Int) != 64) = true := by simp; omega
            clear h3 HQ1 hone hl
            go_wp2_with fail
            go_ret
            exact ⟨by rw [HQ.out]; rfl, q, rfl⟩
      · have HQ : Hid (recQ 4 0 pg n P Z = rfQ n P Z) := by show _ = _; rw [HQ1.out, if_neg h3]
        have d3 : (rfQ n P Z != 0) = true := by simpa using h3
        generalize rfQ n P Z = r at HQ d3 ⊢
        clear h3 HQ1
        go_wp2_with fail
        go_ret
        exact ⟨by rw [HQ.out]; rfl, q, rfl⟩
  · have d : (tx != 0) = true := by simpa using h1
    have HQ : Hid (recQ 4 tx pg n P Z = 1) := by show _ = _; unfold recQ; rw [if_neg (by decide), if_neg (by decide), if_pos rfl, if_pos h1]
    clear h1
    go_enter Try.func76, Try.ntmps76
    go_wp2_with fail
    refine (l1In_any 4 1 6 _).mono ?_
    rintro e w' ⟨rfl, hw'⟩
    subst w'
    rw [show inR 4 1 6 = true from rfl]
    go_wp2_with fail
    refine (l4Runs_any 4 _).mono ?_
    rintro e w' ⟨rfl, hw'⟩
    subst w'
    rw [show inR 4 2 4 = true from rfl]
    go_wp2_with fail
    go_ret
    exact ⟨by rw [HQ.out]; rfl, 0, rfl⟩

set_option maxHeartbeats 1000000 in
theorem l4Fault_no (b : Nat) (k tx pg : Int) (a : Option Addr) (n c : Nat) (P : Nat → Int) (Z : Nat → List Int) (w : World) (h : RcAt w b k tx pg a n c) (hk : inR k 1 6 = false) :
    Calls Try.prog 76 #[.pointer (some ⟨b, 0, none⟩)] w fun e w' => e = .returned (.int .i64 (recQ k tx pg n P Z)) ∧ ∃ q, w' = w.drewN q := by
  obtain ⟨c0, c1, c2, c3⟩ := h
  have hk2 : k < 1 ∨ 6 < k := by simp [inR] at hk; omega
  have HQ : Hid (recQ k tx pg n P Z = 1) := by show _ = _; unfold recQ; rw [if_neg (by omega), if_neg (by omega), if_neg (by omega)]
  clear hk2
  go_enter Try.func76, Try.ntmps76
  go_wp2_with fail
  refine (l1In_any k 1 6 _).mono ?_
  rintro e w' ⟨rfl, hw'⟩
  subst w'
  rw [hk]
  clear hk
  go_wp2_with fail
  go_ret
  exact ⟨by rw [HQ.out]; rfl, 0, rfl⟩

theorem l4Fault_any (b : Nat) (k tx pg : Int) (a : Option Addr) (n c : Nat) (P : Nat → Int) (A : Nat → Option Addr) (C : Nat → Nat) (Z : Nat → List Int) (w : World) (hm : n ≤ 1048576) (hz : Hid (∀ i, i < n → (Z i).length ≤ 1048576)) (hr : RunsRead w a n P A C Z) (h : RcAt w b k tx pg a n c) :
    Calls Try.prog 76 #[.pointer (some ⟨b, 0, none⟩)] w fun e w' => e = .returned (.int .i64 (recQ k tx pg n P Z)) ∧ ∃ q, w' = w.drewN q := by
  cases hk : inR k 1 6
  · exact l4Fault_no b k tx pg a n c P Z w h hk
  · have hk : k = 1 ∨ k = 2 ∨ k = 3 ∨ k = 4 ∨ k = 5 ∨ k = 6 := by simp [inR] at hk; omega
    rcases hk with rfl | rfl | rfl | rfl | rfl | rfl
    · exact l4Fault_1 b tx pg a n c P A C Z w hm hz hr h
    · exact l4Fault_2 b tx pg a n c P A C Z w hm hz hr h
    · exact l4Fault_3 b tx pg a n c P A C Z w hm hz hr h
    · exact l4Fault_4 b tx pg a n c P A C Z w hm hz hr h
    · exact l4Fault_5 b tx pg a n c P A C Z w hm hz hr h
    · exact l4Fault_6 b tx pg a n c P A C Z w hm hz hr h

end Go.Proofs.Yteebbaleejbodaa
