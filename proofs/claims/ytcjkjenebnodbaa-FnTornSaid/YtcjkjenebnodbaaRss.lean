/-
  What compares, marks and looks through a RecordResult.
-/
import Derived.Test.YtcjkjenebnodbaaSrr
namespace Go.Proofs.Ytcjkjenebnodbaa
open Go.RowKit
set_option linter.unusedVariables false

set_option maxHeartbeats 400000 in
theorem eqRunS_sameS (a b : Option Addr) (n c d : Nat) (P : Nat → Int) (A B : Nat → Option Addr) (C D : Nat → Nat) (Z : Nat → List Int) (F G : Nat → Nat) (la ua lb ub : Nat) (w : World) (hm : n + took Z n ≤ 1048576) (hx : OwnS la ua w a n P A C Z F) (hy : OwnS lb ub w b n P B D Z G) :
    Calls Try.prog 95 #[.slice a n c, .slice b n d] w fun e w' => e = .returned (.bool true) ∧ Below w.heap.size w w' := by
  by_cases h0 : n = 0
  · subst h0
    go_enter Try.func95, Try.ntmps95
    go_wp2_with fail
    go_rounds 1
    go_ret
    exact ⟨rfl, Below.refl _ _⟩
  · obtain ⟨x, rfl, hx'⟩ := hx.resolve_left h0
    obtain ⟨y, rfl, hy'⟩ := hy.resolve_left h0
    exact eqRunS_same x y n c d P A B C D Z F G la ua lb ub w hm hx' hy'

set_option maxHeartbeats 400000 in
theorem markRunS_S (a : Option Addr) (n c : Nat) (lo hi : Nat) (P : Nat → Int) (A : Nat → Option Addr) (C : Nat → Nat) (Z : Nat → List Int) (F : Nat → Nat) (k : Int) (w : World) (hm : n + took Z n ≤ 1048576) (hk0 : 0 ≤ k) (hk1 : k ≤ 10000000) (h : OwnS lo hi w a n P A C Z F) :
    Calls Try.prog 97 #[.slice a n c, .int .i64 k] w fun e w' => e = .returned (.int .i64 (mk Z k n)) ∧ Turned lo hi w w' ∧ OwnS lo hi w' a n (mk Z k) A C (mZ Z k) F := by
  by_cases h0 : n = 0
  · subst h0
    go_enter Try.func97, Try.ntmps97
    go_wp2_with fail
    go_rounds 1
    go_ret
    exact ⟨by simp [mk, took], Turned.refl _ _ _, .inl rfl⟩
  · obtain ⟨x, rfl, hx⟩ := h.resolve_left h0
    refine (markRunS_own x n c lo hi P A C Z F k w hm hk0 hk1 hx).mono ?_
    rintro e w' ⟨he, ht, ho⟩
    exact ⟨he, ht, .inr ⟨x, rfl, ho⟩⟩

set_option maxHeartbeats 400000 in
theorem heldRunS_S (a : Option Addr) (n c : Nat) (lo hi : Nat) (A : Nat → Option Addr) (C : Nat → Nat) (Z : Nat → List Int) (F : Nat → Nat) (k : Int) (w : World) (hm : n + took Z n ≤ 1048576) (hk0 : 0 ≤ k) (hk1 : k ≤ 10000000) (h : OwnS lo hi w a n (mk Z k) A C (mZ Z k) F) :
    Calls Try.prog 128 #[.slice a n c, .int .i64 k] w fun e w' => e = .returned (.int .i64 (mk Z k n)) ∧ w' = w := by
  by_cases h0 : n = 0
  · subst h0
    go_enter Try.func128, Try.ntmps128
    go_wp2_with fail
    go_rounds 1
    go_ret
    exact ⟨by simp [mk, took], rfl⟩
  · obtain ⟨x, rfl, hx⟩ := h.resolve_left h0
    exact heldRunS_own x n c lo hi A C Z F k w hm hk0 hk1 hx

theorem took_le (Z : Nat → List Int) (c : Nat) : ∀ n, (∀ i, i < n → (Z i).length ≤ c) → took Z n ≤ c * n
  | 0, _ => by simp [took]
  | n + 1, h => by
    have h1 := took_le Z c n (fun i hi => h i (by omega))
    have h2 := h n (by omega)
    simp only [took]
    rw [Nat.mul_succ]
    omega

set_option maxHeartbeats 1000000 in
theorem eqRecord_sameS (k tx pg : Int) (a b : Option Addr) (n c d : Nat) (P : Nat → Int) (A B : Nat → Option Addr) (C D : Nat → Nat) (Z : Nat → List Int) (F G : Nat → Nat) (la ua lb ub : Nat) (w : World) (hm : n + took Z n ≤ 1048576) (hx : OwnS la ua w a n P A C Z F) (hy : OwnS lb ub w b n P B D Z G) :
    Calls Try.prog 34 #[.agg #[.int .i64 k, .int .i64 tx, .int .i64 pg, .slice a n c], .agg #[.int .i64 k, .int .i64 tx, .int .i64 pg, .slice b n d]] w fun e w' => e = .returned (.bool true) ∧ Below w.heap.size w w' := by
  have HX : Hid (OwnS la ua w a n P A C Z F) := hx
  have HY : Hid (OwnS lb ub w b n P B D Z G) := hy
  clear hx hy
  go_enter Try.func34, Try.ntmps34
  go_wp2_with fail
  refine (eqRunS_sameS a b n c d P A B C D Z F G la ua lb ub _ hm (HX.out.below (by go_grown)) (HY.out.below (by go_grown))).mono ?_
  rintro e w' ⟨rfl, hb⟩
  have g : Below w.heap.size w w' := Below.trans (by go_grown) (hb.mono (by simp; omega))
  clear hb
  go_wp2_with fail
  go_ret
  exact ⟨rfl, g⟩

set_option maxHeartbeats 1000000 in
theorem markRecord_S (q tx pg : Int) (a : Option Addr) (n c : Nat) (lo hi : Nat) (P : Nat → Int) (A : Nat → Option Addr) (C : Nat → Nat) (Z : Nat → List Int) (F : Nat → Nat) (k : Int) (w : World) (hm : n + took Z n ≤ 1048576) (hk0 : 0 ≤ k) (hk1 : k ≤ 10000000) (h : OwnS lo hi w a n P A C Z F) :
    Calls Try.prog 38 #[.agg #[.int .i64 q, .int .i64 tx, .int .i64 pg, .slice a n c], .int .i64 k] w fun e w' => e = .returned (.int .i64 (mk Z k n)) ∧ Turned lo hi w w' ∧ OwnS lo hi w' a n (mk Z k) A C (mZ Z k) F := by
  have HX : Hid (OwnS lo hi w a n P A C Z F) := h
  clear h
  go_enter Try.func38, Try.ntmps38
  go_wp2_with fail
  refine (markRunS_S a n c lo hi P A C Z F k _ hm hk0 hk1 (HX.out.below (by go_grown))).mono ?_
  rintro e w' ⟨rfl, ht, ho⟩
  have h1 : Turned lo hi w w' := Turned.trans (Turned.ofBelow (by go_grown)) ht
  clear ht
  go_wp2_with fail
  go_ret
  exact ⟨rfl, h1, ho⟩

set_option maxHeartbeats 1000000 in
theorem heldRecord_S (q tx pg : Int) (a : Option Addr) (n c : Nat) (lo hi : Nat) (A : Nat → Option Addr) (C : Nat → Nat) (Z : Nat → List Int) (F : Nat → Nat) (k : Int) (w : World) (hm : n + took Z n ≤ 1048576) (hk0 : 0 ≤ k) (hk1 : k ≤ 10000000) (h : OwnS lo hi w a n (mk Z k) A C (mZ Z k) F) :
    Calls Try.prog 102 #[.agg #[.int .i64 q, .int .i64 tx, .int .i64 pg, .slice a n c], .int .i64 k] w fun e w' => e = .returned (.int .i64 (mk Z k n)) ∧ Below w.heap.size w w' := by
  have HX : Hid (OwnS lo hi w a n (mk Z k) A C (mZ Z k) F) := h
  clear h
  have hpos : ¬ (mk Z k n < 0) := by unfold mk; omega
  go_enter Try.func102, Try.ntmps102
  go_wp2_with fail
  refine (heldRunS_S a n c lo hi A C Z F k _ hm hk0 hk1 (HX.out.below (by go_grown))).mono ?_
  rintro e w' ⟨rfl, hw'⟩
  subst w'
  go_wp2_with fail
  go_ret
  exact ⟨rfl, by go_grown⟩

set_option maxHeartbeats 1000000 in
theorem eqRecordResult_same (q u k tx pg : Int) (a b : Option Addr) (n c d : Nat) (P : Nat → Int) (A B : Nat → Option Addr) (C D : Nat → Nat) (Z : Nat → List Int) (F G : Nat → Nat) (la ua lb ub : Nat) (w : World) (hm : n + took Z n ≤ 1048576) (hx : OwnS la ua w a n P A C Z F) (hy : OwnS lb ub w b n P B D Z G) :
    Calls Try.prog 44 #[.agg #[.int .i64 q, .int .i64 u, .int .i64 k, .int .i64 tx, .int .i64 pg, .slice a n c], .agg #[.int .i64 q, .int .i64 u, .int .i64 k, .int .i64 tx, .int .i64 pg, .slice b n d]] w fun e w' => e = .returned (.bool true) ∧ Below w.heap.size w w' := by
  have HX : Hid (OwnS la ua w a n P A C Z F) := hx
  have HY : Hid (OwnS lb ub w b n P B D Z G) := hy
  clear hx hy
  go_enter Try.func44, Try.ntmps44
  go_wp2_with fail
  refine (eqRecord_sameS k tx pg a b n c d P A B C D Z F G la ua lb ub _ hm (HX.out.below (by go_grown)) (HY.out.below (by go_grown))).mono ?_
  rintro e w' ⟨rfl, hb⟩
  have g : Below w.heap.size w w' := Below.trans (by go_grown) (hb.mono (by simp; omega))
  clear hb
  go_wp2_with fail
  go_ret
  exact ⟨rfl, g⟩

set_option maxHeartbeats 1000000 in
theorem markRecordResult_any (q u kk tx pg : Int) (a : Option Addr) (n c : Nat) (lo hi : Nat) (P : Nat → Int) (A : Nat → Option Addr) (C : Nat → Nat) (Z : Nat → List Int) (F : Nat → Nat) (k : Int) (w : World) (hm : n + took Z n ≤ 1048576) (hk0 : 0 ≤ k) (hk1 : k ≤ 10000000) (h : OwnS lo hi w a n P A C Z F) :
    Calls Try.prog 47 #[.agg #[.int .i64 q, .int .i64 u, .int .i64 kk, .int .i64 tx, .int .i64 pg, .slice a n c], .int .i64 k] w fun e w' => e = .returned (.int .i64 (mk Z k n)) ∧ Turned lo hi w w' ∧ OwnS lo hi w' a n (mk Z k) A C (mZ Z k) F := by
  have HX : Hid (OwnS lo hi w a n P A C Z F) := h
  clear h
  go_enter Try.func47, Try.ntmps47
  go_wp2_with fail
  refine (markRecord_S kk tx pg a n c lo hi P A C Z F k _ hm hk0 hk1 (HX.out.below (by go_grown))).mono ?_
  rintro e w' ⟨rfl, ht, ho⟩
  have h1 : Turned lo hi w w' := Turned.trans (Turned.ofBelow (by go_grown)) ht
  clear ht
  go_wp2_with fail
  go_ret
  exact ⟨rfl, h1, ho⟩

set_option maxHeartbeats 1000000 in
theorem heldRecordResult_any (q u kk tx pg : Int) (a : Option Addr) (n c : Nat) (lo hi : Nat) (A : Nat → Option Addr) (C : Nat → Nat) (Z : Nat → List Int) (F : Nat → Nat) (k : Int) (w : World) (hm : n + took Z n ≤ 1048576) (hk0 : 0 ≤ k) (hk1 : k ≤ 10000000) (h : OwnS lo hi w a n (mk Z k) A C (mZ Z k) F) :
    Calls Try.prog 48 #[.agg #[.int .i64 q, .int .i64 u, .int .i64 kk, .int .i64 tx, .int .i64 pg, .slice a n c], .int .i64 k] w fun e w' => e = .returned (.int .i64 (mk Z k n)) ∧ Below w.heap.size w w' := by
  have HX : Hid (OwnS lo hi w a n (mk Z k) A C (mZ Z k) F) := h
  clear h
  have hpos : ¬ (mk Z k n < 0) := by unfold mk; omega
  go_enter Try.func48, Try.ntmps48
  go_wp2_with fail
  refine (heldRecord_S kk tx pg a n c lo hi A C Z F k _ hm hk0 hk1 (HX.out.below (by go_grown))).mono ?_
  rintro e w' ⟨rfl, hb⟩
  have g : Below w.heap.size w w' := Below.trans (by go_grown) (hb.mono (by simp))
  clear hb
  go_wp2_with fail
  go_ret
  exact ⟨rfl, g⟩

end Go.Proofs.Ytcjkjenebnodbaa
