/-
  The law FnExactSameRecords answers true at all records.
-/
import Derived.Test.YtcjkjenebnodbaaSaq
import Derived.Test.YtcjkjenebnodbaaLawPA
namespace Go.Proofs.Ytcjkjenebnodbaa
open Go.RowKit
set_option linter.unusedVariables false

set_option maxHeartbeats 4000000 in
theorem lawSameRecords_any (a : Option Addr) (n c : Nat) (R : Nat → Rc) (D : Nat → Ad) (b : Option Addr) (m d : Nat) (S : Nat → Rc) (E : Nat → Ad) (w : World) (hi : IsRecs w a n R D) (hj : IsRecs w b m S E) :
    Calls Try.prog 8 #[.slice a n c, .slice b m d] w fun e w' => e = .returned (.bool true) ∧ Below w.heap.size w w' := by
  have HIr : Hid (IsRecs w a n R D) := hi
  have HJr : Hid (IsRecs w b m S E) := hj
  have HTa : Hid (n + szR R n ≤ 1048576 → ∀ X, Below w.heap.size w X → Calls Try.prog 51 #[.slice a n c] X fun e w' => e = .returned (.slice (some ⟨X.heap.size, 0, none⟩) n n) ∧ Below X.heap.size X w' ∧ ∃ D', OwnR X.heap.size w'.heap.size w' X.heap.size n R D') := fun hl X g => toRecordS_any a n c R D X hl (hi.rd.below g (Nat.le_refl _))
  have HTb : Hid (m + szR S m ≤ 1048576 → ∀ X, Below w.heap.size w X → Calls Try.prog 51 #[.slice b m d] X fun e w' => e = .returned (.slice (some ⟨X.heap.size, 0, none⟩) m m) ∧ Below X.heap.size X w' ∧ ∃ D', OwnR X.heap.size w'.heap.size w' X.heap.size m S D') := fun hl X g => toRecordS_any b m d S E X hl (hj.rd.below g (Nat.le_refl _))
  have HZa : n + szR R n ≤ 1048576 → ∀ i, i < n → (R i).n ≤ 1048576 ∧ ∀ j, j < (R i).n → ∀ z ∈ (R i).Z j, 0 ≤ z ∧ z ≤ 255 := fun hl i hi' => ⟨by have := szR_one R i n hi'; omega, (hi.ir i hi').zb⟩
  have HZb : m + szR S m ≤ 1048576 → ∀ i, i < m → (S i).n ≤ 1048576 ∧ ∀ j, j < (S i).n → ∀ z ∈ (S i).Z j, 0 ≤ z ∧ z ≤ 255 := fun hl i hi' => ⟨by have := szR_one S i m hi'; omega, (hj.ir i hi').zb⟩
  obtain ⟨q, hq⟩ : ∃ q, q = sameQ n m R S := ⟨_, rfl⟩
  have HSp : Hid (n + szR R n ≤ 1048576 → m + szR S m ≤ 1048576 → ∀ X x y lo hi lo' hi' D' E', OwnR lo hi X x n R D' → OwnR lo' hi' X y m S E' → Calls Try.prog 50 #[.slice (some ⟨x, 0, none⟩) n n, .slice (some ⟨y, 0, none⟩) m m] X fun e w' => e = .returned (.bool q) ∧ Below X.heap.size X w') := fun h1 h2 X x y lo hi lo' hi' D' E' ho ho' => by rw [hq]; exact specSameRecords_any _ _ n m n m R S D' E' X (by omega) (by omega) ho.reads ho'.reads (HZa h1) (HZb h2)
  have HI : Hid (n + szR R n ≤ 1048576 → m + szR S m ≤ 1048576 → ∀ X x y lo hi lo' hi' D' E', OwnR lo hi X x n R D' → OwnR lo' hi' X y m S E' → Calls Try.prog 24 #[.slice (some ⟨x, 0, none⟩) n n, .slice (some ⟨y, 0, none⟩) m m] X fun e w' => e = .returned (.bool q) ∧ Below X.heap.size X w') := fun h1 h2 X x y lo hi lo' hi' D' E' ho ho' => by rw [hq]; exact implSameRecords_any _ _ n m n m R S D' E' X (by omega) (by omega) ho.reads ho'.reads (HZa h1) (HZb h2)
  have HRs : n + szR R n ≤ 1048576 → Hid (∀ i, i < n → (R i).n + took (R i).Z (R i).n ≤ 1048576) := fun hl i hi => by have := szR_one R i n hi; omega
  have HRt : m + szR S m ≤ 1048576 → Hid (∀ i, i < m → (S i).n + took (S i).Z (S i).n ≤ 1048576) := fun hl i hi => by have := szR_one S i m hi; omega
  clear hq hi hj HZa HZb
  go_enter Try.func8, Try.ntmps8
  go_wp2_with fail
  refine (szRecordS_any a n c R D 1048576 _ (by omega) (by omega) HIr.out).mono ?_
  rintro e w0 ⟨⟨r, rfl, hl⟩, g0⟩
  rcases hl with hl | ⟨h0, hl⟩
  · subst hl
    go_wp2_with fail
    go_ret
    exact ⟨rfl, g0⟩
  have hl1 : n + szR R n ≤ 1048576 := by omega
  have hr1 : r ≤ 1048576 := by omega
  have h0' : ¬ (r < 0) := by omega
  clear hl
  go_wp2_with fail
  refine (szRecordS_any b m d S E r _ h0 hr1 ⟨HJr.out.rd.below g0 (Nat.le_refl _), HJr.out.ln, fun i hi => by
    have h := HJr.out.ir i hi
    exact ⟨h.rd.below g0 (Nat.le_refl _), h.ln, h.zl, h.zb, h.pw⟩⟩).mono ?_
  rintro e w1 ⟨⟨r2, rfl, hl⟩, g1⟩
  have g0 := g0.trans (g1.mono g0.size)
  clear g1
  rcases hl with hl | ⟨h2, hl⟩
  · subst hl
    go_wp2_with fail
    go_ret
    exact ⟨rfl, g0⟩
  have hl2 : m + szR S m ≤ 1048576 := by omega
  have h2' : ¬ (r2 < 0) := by omega
  have hRs := HRs hl1
  have hRt := HRt hl2
  have hn1 : n ≤ 1048576 := by omega
  have hm1 : m ≤ 1048576 := by omega
  clear hl HRs HRt
  go_wp2_with fail
  refine (HTa.out hl1 _ g0).mono ?_
  rintro e w2 ⟨rfl, g1, D2, o2⟩
  have g0 := g0.trans (g1.mono g0.size)
  clear g1
  generalize w1.heap.size = x2 at o2 ⊢
  go_wp2_with fail
  refine (HTb.out hl2 _ g0).mono ?_
  rintro e w3 ⟨rfl, g1, E3, o3⟩
  have g0 := g0.trans (g1.mono g0.size)
  have o2 := o2.below g1
  clear g1
  generalize w2.heap.size = x3 at o2 o3 ⊢
  go_wp2_with fail
  refine (HSp.out hl1 hl2 _ _ _ _ _ _ _ _ _ o2 o3).mono ?_
  rintro e w4 ⟨rfl, g1⟩
  have g0 := g0.trans (g1.mono g0.size)
  clear g1 o2 o3
  go_wp2_with fail
  refine (HTa.out hl1 _ g0).mono ?_
  rintro e w5 ⟨rfl, g1, D5, o5⟩
  have g0 := g0.trans (g1.mono g0.size)
  clear g1
  generalize w4.heap.size = x5 at o5 ⊢
  go_wp2_with fail
  refine (HTb.out hl2 _ g0).mono ?_
  rintro e w6 ⟨rfl, g1, E6, o6⟩
  have g0 := g0.trans (g1.mono g0.size)
  have o5 := o5.below g1
  clear g1
  generalize w5.heap.size = x6 at o5 o6 ⊢
  go_wp2_with fail
  refine (HI.out hl1 hl2 _ _ _ _ _ _ _ _ _ o5 o6).mono ?_
  rintro e w7 ⟨rfl, g1⟩
  have g0 := g0.trans (g1.mono g0.size)
  have o5 := o5.below g1
  have o6 := o6.below g1
  clear g1
  go_wp2_with fail
  refine (HTa.out hl1 _ g0).mono ?_
  rintro e w8 ⟨rfl, g1, D8, o8⟩
  have g0 := g0.trans (g1.mono g0.size)
  have o5 := o5.below g1
  have o6 := o6.below g1
  clear g1
  go_wp2_with fail
  refine (eqRecordS_same _ _ n n n R D5 D8 _ _ _ _ _ hn1 hRs (.inr ⟨_, rfl, o5⟩) (.inr ⟨_, rfl, o8⟩)).mono ?_
  rintro e w9 ⟨rfl, g1⟩
  have g0 := g0.trans (g1.mono g0.size)
  have o6 := o6.below g1
  clear g1 o8 o5
  go_wp2_with fail
  refine (HTb.out hl2 _ g0).mono ?_
  rintro e w10 ⟨rfl, g1, E10, o10⟩
  have g0 := g0.trans (g1.mono g0.size)
  have o6 := o6.below g1
  clear g1
  go_wp2_with fail
  refine (eqRecordS_same _ _ m m m S E6 E10 _ _ _ _ _ hm1 hRt (.inr ⟨_, rfl, o6⟩) (.inr ⟨_, rfl, o10⟩)).mono ?_
  rintro e w11 ⟨rfl, g1⟩
  have g0 := g0.trans (g1.mono g0.size)
  clear g1 o10 o6
  go_wp2_with fail
  go_ret
  exact ⟨rfl, g0⟩

end Go.Proofs.Ytcjkjenebnodbaa
