/-
  The model's SameRecords, whole.
-/
import Derived.Test.YtcjkjenebnodbaaSao
namespace Go.Proofs.Ytcjkjenebnodbaa
open Go.RowKit
set_option linter.unusedVariables false

set_option maxHeartbeats 2000000 in
theorem specSameRecords_any (a b : Option Addr) (n m c d : Nat) (R S : Nat → Rc) (D E : Nat → Ad) (w : World) (hn : n ≤ 1048576) (hm : m ≤ 1048576) (hx : RecsRead w a n R D) (hy : RecsRead w b m S E) (hz : ∀ i, i < n → (R i).n ≤ 1048576 ∧ ∀ j, j < (R i).n → ∀ z ∈ (R i).Z j, 0 ≤ z ∧ z ≤ 255) (hz' : ∀ i, i < m → (S i).n ≤ 1048576 ∧ ∀ j, j < (S i).n → ∀ z ∈ (S i).Z j, 0 ≤ z ∧ z ≤ 255) :
    Calls Try.prog 50 #[.slice a n c, .slice b m d] w fun e w' => e = .returned (.bool (sameQ n m R S)) ∧ Below w.heap.size w w' := by
  by_cases hnm : n = m
  · subst hnm
    by_cases h0 : n = 0
    · subst h0
      go_enter Try.func50, Try.ntmps50
      go_wp2_with fail
      go_rounds 1
      go_ret
      exact ⟨by simp [sameQ, sameL], Below.refl _ _⟩
    have HX : Hid (RecsRead w a n R D) := hx
    have HY : Hid (RecsRead w b n S E) := hy
    have HZ : Hid (∀ i, i < n → (R i).n ≤ 1048576 ∧ ∀ j, j < (R i).n → ∀ z ∈ (R i).Z j, 0 ≤ z ∧ z ≤ 255) := hz
    have HZ' : Hid (∀ i, i < n → (S i).n ≤ 1048576 ∧ ∀ j, j < (S i).n → ∀ z ∈ (S i).Z j, 0 ≤ z ∧ z ≤ 255) := hz'
    obtain ⟨x, xo, rfl⟩ : ∃ x xo, a = some ⟨x, xo, none⟩ := by
      rcases hx with h | ⟨x, xo, h, _⟩
      · exact absurd h h0
      · exact ⟨x, xo, h⟩
    obtain ⟨y, yo, rfl⟩ : ∃ y yo, b = some ⟨y, yo, none⟩ := by
      rcases hy with h | ⟨x, xo, h, _⟩
      · exact absurd h h0
      · exact ⟨x, xo, h⟩
    clear hx hy hz hz'
    go_enter Try.func50, Try.ntmps50
    go_wp2_with fail
    go_loopw [5] (fun i wr => ∃ k : Nat, k ≤ n ∧ i = .int .i64 k ∧ Below w.heap.size w wr ∧ Hid (sameL R S k = true)) (fun i _ => n - (intOf i).toNat)
    case atStart => exact ⟨0, Nat.zero_le _, rfl, Below.refl _ _, rfl⟩
    case round =>
      obtain ⟨k, hk, rfl, g, hT⟩ := hrel
      by_cases hlt : k < n
      · have hkn : (k : Int) < (n : Int) := by omega
        have HC : Hid (∀ X, Below w.heap.size w X → Calls Try.prog 103 #[.pointer (some ⟨x, xo + k * 4, none⟩), .pointer (some ⟨y, yo + k * 4, none⟩)] X fun e w' => e = .returned (.bool (sameR (R k) (S k))) ∧ Below X.heap.size X w') := fun X gX => by
          obtain ⟨x0, x1, x2, x3, x4⟩ := (HX.out.below gX (Nat.le_refl _)).at_ k hlt
          obtain ⟨y0, y1, y2, y3, y4⟩ := (HY.out.below gX (Nat.le_refl _)).at_ k hlt
          refine (l4Same_any x (xo + k * 4) y (yo + k * 4) (R k) (S k) (D k) (E k) X ⟨x4, (HZ.out k hlt).1, (HZ.out k hlt).2⟩ ⟨y4, (HZ'.out k hlt).1, (HZ'.out k hlt).2⟩ ⟨x0, x1, x2, x3⟩ ⟨y0, y1, y2, y3⟩).mono ?_
          rintro e w' ⟨h1, q, h2⟩
          exact ⟨h1, by rw [h2]; exact below_draws (Below.refl _ _) _⟩
        obtain ⟨t, ht⟩ : ∃ t, t = sameR (R k) (S k) := ⟨_, rfl⟩
        have HTt : Hid (t = true → sameL R S (k + 1) = true) := fun h => by simp only [sameL]; rw [hT.out, ← ht, h]; rfl
        have HTf : Hid (t = false → sameL R S n = false) := fun h => sameL_stay (j := k + 1) (by simp only [sameL]; rw [hT.out, ← ht, h]; rfl) (by omega)
        rw [← ht] at HC
        clear ht
        go_upto_region 6 with (fail)
        refine wp_region_held_drew (S := fun V => Below w.heap.size w V) (by kernel_rfl) g.drew (fun hHeld => ?_)
        generalize wr.drew = D0 at hHeld ⊢
        clear g
        refine wpAnyH_take (i := 0) (v := ?v1) rfl (by kernel_rfl) (by kernel_rfl) (by kernel_rfl) (fun _ _ _ h => h) (Or.inl ⟨by kernel_rfl, ?h1⟩) hHeld ?_
        case h1 => intro u hSw; (try dsimp only at hSw); go_simp; try with_reducible rfl
        try simp only [List.getElem_toArray]
        try simp only [List.getElem_cons_succ]
        try simp only [List.getElem_cons_zero]
        try simp only [Act.put]
        try simp only [List.setIfInBounds_toArray]
        try simp only [List.set]
        refine wpAnyH_take (i := 1) (v := ?v2) rfl (by kernel_rfl) (by kernel_rfl) (by kernel_rfl) (fun _ _ _ h => h) (Or.inl ⟨by kernel_rfl, ?h2⟩) hHeld ?_
        case h2 => intro u hSw; (try dsimp only at hSw); go_simp; try with_reducible rfl
        try simp only [List.getElem_toArray]
        try simp only [List.getElem_cons_succ]
        try simp only [List.getElem_cons_zero]
        try simp only [Act.put]
        try simp only [List.setIfInBounds_toArray]
        try simp only [List.set]
        refine wpAnyH_take (i := 2) (v := ?v3) rfl (by kernel_rfl) (by kernel_rfl) (by kernel_rfl) (fun _ _ _ h => h) (Or.inl ⟨by kernel_rfl, ?h3⟩) hHeld ?_
        case h3 => intro u hSw; (try dsimp only at hSw); go_simp; try with_reducible rfl
        try simp only [List.getElem_toArray]
        try simp only [List.getElem_cons_succ]
        try simp only [List.getElem_cons_zero]
        try simp only [Act.put]
        try simp only [List.setIfInBounds_toArray]
        try simp only [List.set]
        refine wpAnyH_take (i := 3) (v := ?v4) rfl (by kernel_rfl) (by kernel_rfl) (by kernel_rfl) (fun _ _ _ h => h) (Or.inl ⟨by kernel_rfl, ?h4⟩) hHeld ?_
        case h4 => intro u hSw; (try dsimp only at hSw); go_simp; try with_reducible rfl
        try simp only [List.getElem_toArray]
        try simp only [List.getElem_cons_succ]
        try simp only [List.getElem_cons_zero]
        try simp only [Act.put]
        try simp only [List.setIfInBounds_toArray]
        try simp only [List.set]
        refine wpAnyH_take (i := 4) (v := ?v5) rfl (by kernel_rfl) (by kernel_rfl) (by kernel_rfl) (fun _ _ _ h => h) (Or.inl ⟨by kernel_rfl, ?h5⟩) hHeld ?_
        case h5 => intro u hSw; (try dsimp only at hSw); go_simp; try with_reducible rfl
        try simp only [List.getElem_toArray]
        try simp only [List.getElem_cons_succ]
        try simp only [List.getElem_cons_zero]
        try simp only [Act.put]
        try simp only [List.setIfInBounds_toArray]
        try simp only [List.set]
        refine wpAnyH_take (i := 5) (v := ?v6) rfl (by kernel_rfl) (by kernel_rfl) (by kernel_rfl) (fun _ _ _ h => h) (Or.inl ⟨by kernel_rfl, ?h6⟩) hHeld ?_
        case h6 => intro u hSw; (try dsimp only at hSw); go_simp; try with_reducible rfl
        try simp only [List.getElem_toArray]
        try simp only [List.getElem_cons_succ]
        try simp only [List.getElem_cons_zero]
        try simp only [Act.put]
        try simp only [List.setIfInBounds_toArray]
        try simp only [List.set]
        refine wpAnyH_ready (rs := [6]) (by kernel_rfl) (by simp) ?_
        refine AllReadyH.cons rfl (fun K hK => ?_) AllReadyH.nil
        go_simp
        go_wp2_with (go_at_call 103; refine (HC.out _ hHeld).mono ?_; rintro e w' ⟨rfl, hb⟩)
        refine hK.out _ _ (hHeld.trans (hb.mono hHeld.size)) (fun hHeld => ?_)
        clear hK K
        have gW := hHeld
        clear hb
        try simp only [Act.put]
        try simp only [List.setIfInBounds_toArray]
        try simp only [List.set]
        refine wpAnyH_take (i := 7) (v := ?v7) rfl (by kernel_rfl) (by kernel_rfl) (by kernel_rfl) (fun _ _ _ h => h) (Or.inl ⟨by kernel_rfl, ?h7⟩) hHeld ?_
        case h7 => intro u hSw; (try dsimp only at hSw); go_simp; try with_reducible rfl
        try simp only [List.getElem_toArray]
        try simp only [List.getElem_cons_succ]
        try simp only [List.getElem_cons_zero]
        try simp only [Act.put]
        try simp only [List.setIfInBounds_toArray]
        try simp only [List.set]
        refine wpAnyH_done (by kernel_rfl) ?_ _
        clear hHeld
        cases t with
        | true =>
          have HT2 : Hid (sameL R S (k + 1) = true) := HTt.out rfl
          go_wp2_with fail
          go_roundw
          case rel => exact ⟨k + 1, by omega, by go_num, gW, HT2⟩
          case measure => simp [intOf]; omega
        | false =>
          have HF : Hid (sameL R S n = false) := HTf.out rfl
          go_wp2_with fail
          go_ret
          exact ⟨by simp [sameQ, HF.out], gW⟩
      · have e : k = n := by omega
        subst e
        go_wp2_with fail
        go_ret
        exact ⟨by simp [sameQ, hT.out], g⟩
  · have hd : ¬ ((n : Int) = (m : Int)) := by omega
    go_enter Try.func50, Try.ntmps50
    go_wp2_with fail
    go_ret
    exact ⟨by simp [sameQ, hnm], Below.refl _ _⟩

end Go.Proofs.Ytcjkjenebnodbaa
