/-
  A plain one counted and made one's own.
-/
import Derived.Test.YtmboclfgldgefaaGreatCMPlr
import Derived.Test.YtmboclfgldgefaaGreatCMUnp

namespace Go.Proofs.YtmboclfgldgefaaGreat
open Go.RowKit Go.Maps
set_option linter.unusedVariables false
set_option maxRecDepth 20000

theorem OwZ.low {B T lo hi : Nat} {w w' : World} {a : Option Addr} {xs : List TxV} (h : OwZ B T w a xs) (ht : Turned lo hi w w') (hl : hi ≤ B) : OwZ B T w' a xs := by
  rcases h with h | ⟨b, lo', hi', h1, h2, ⟨h3, h3'⟩, h4⟩
  · exact .inl h
  · refine .inr ⟨b, lo', hi', h1, ⟨fun i x hx => ?_, fun i hi => ?_, h2.out, h2.dis⟩, ⟨h3, h3'⟩, h4⟩
    · obtain ⟨ua, ma, la, uc, mc, lc, c4, hc, t⟩ := h2.c i x hx
      have hil : i < xs.length := (List.getElem?_eq_some_iff.1 hx).1
      exact ⟨ua, ma, la, uc, mc, lc, c4.turned ht (.inr (Nat.le_trans hl h3)), hc, ⟨t.u.turned ht (.inr (Nat.le_trans hl (h4 _ (by omega)).1)), t.m.turned ht (.inr (Nat.le_trans hl (h4 _ (by omega)).1)), t.l.turned ht (.inr (Nat.le_trans hl (h4 _ (by omega)).1))⟩⟩
    · obtain ⟨_, _, _, _, _, _, c4, _⟩ := h2.c i _ (List.getElem?_eq_getElem hi)
      exact (ht.frozen (p := ⟨b, i * 4, none⟩) c4.c0 (.inr (Nat.le_trans hl h3))).trans (h2.f i hi)
theorem SlIn.wide {α : Type} {enc : α → List Value} {k lo hi lo' hi' : Nat} {w : World} {a : Option Addr} {xs : List α} (h : SlIn enc k lo hi w a xs) (hl : lo' ≤ lo) (hh : hi ≤ hi') : SlIn enc k lo' hi' w a xs := by
  rcases h with h | ⟨b, off, rfl, h1, h2, hc⟩
  · exact .inl h
  · exact .inr ⟨b, off, rfl, Nat.le_trans hl h1, Nat.lt_of_lt_of_le h2 hh, hc⟩

set_option maxHeartbeats 2000000 in
theorem szPlain_any (ra : Option Addr) (rs : List Rw) (rn rc : Nat) (a : Option Addr) (xs : List TxV) (n c : Nat) (nx k : Int) (w : World) (h : IsTxs w a n xs) (hrn : rs.length = rn) (hrm : rn ≤ 9223372036854775807) (hrs : ∀ r ∈ rs, r.s.size ≤ maxLen) (hr : Rs rwE 4 w ra rs) (hk0 : 0 ≤ k) (hk : k ≤ 1048576) :
    Calls Tryz.prog 5 #[.agg #[.slice ra rn rc, .slice a n c, .int .i64 nx], .int .i64 k] w fun e w' => (∃ r : Int, e = .returned (.int .i64 r) ∧ (0 ≤ r → rn ≤ 1048576 ∧ (∀ r ∈ rs, r.s.size ≤ 1048576) ∧ n + nS xs ≤ 1048576 ∧ ∀ x ∈ xs, TxOk 1048576 x)) ∧ Below w.heap.size w w' := by
  have H1 : Hid (∀ V, Below w.heap.size w V → Calls Tryz.prog 16 #[.slice ra rn rc, .int .i64 k] V fun e w' => (∃ r : Int, e = .returned (.int .i64 r) ∧ r ≤ 1048576 ∧ (0 ≤ r → rn ≤ 1048576 ∧ ∀ x ∈ rs, x.s.size ≤ 1048576)) ∧ Below V.heap.size V w') := fun V hV => szRowS_any ra rs rn rc V k hrn hrm hrs (hr.below hV (Nat.le_refl _)) hk0 hk
  have H2 : Hid (∀ V (r : Int), Below w.heap.size w V → 0 ≤ r → r ≤ 1048576 → Calls Tryz.prog 17 #[.slice a n c, .int .i64 r] V fun e w' => (∃ r2 : Int, e = .returned (.int .i64 r2) ∧ r2 ≤ r ∧ (0 ≤ r2 → r2 + n + nS xs ≤ r ∧ ∀ x ∈ xs, TxOk 1048576 x)) ∧ Below V.heap.size V w') := fun V r hV h0 h1 => szTxS_le a xs n c V r ⟨h.rd.below hV (Nat.le_refl _), h.eq, h.ln, h.ok⟩ h0 h1
  clear h hrn hrs hr
  go_enter Tryz.func5, Tryz.ntmps5
  go_upto_region 1 with (fail)
  generalize hY : World.alloc _ _ = Y
  have g : Below w.heap.size w Y := by rw [← hY]; go_grown
  have A : P3 Y w.heap.size (.slice ra rn rc) (.slice a n c) (.int .i64 nx) := by rw [← hY]; exact ⟨by simp [go_sem], by simp [go_sem], by simp [go_sem]⟩
  clear hY
  obtain ⟨ab, hab⟩ : ∃ ab, w.heap.size = ab := ⟨_, rfl⟩
  rw [hab] at A
  simp only [hab]
  have HAB : Hid (w.heap.size = ab) := hab
  clear hab
  have lA := A.lt
  have HP : Hid (∀ V, Below Y.heap.size Y V → P3 V ab (.slice ra rn rc) (.slice a n c) (.int .i64 nx)) := fun V hV => A.below hV lA
  obtain ⟨q0, q1, q2⟩ := A
  have hcon := H1.out Y g
  go_wp2_with fail
  refine hcon.mono ?_
  rintro e w1 ⟨⟨r, rfl, hr1, hl⟩, g1⟩
  have g := g.trans (g1.mono g.size)
  clear hcon q0 q1 q2 H1
  by_cases h0 : r < 0
  · clear hl H2
    go_wp2_with fail
    go_ret
    exact ⟨⟨-1, rfl, fun h => absurd h (by omega)⟩, g⟩
  have HL : Hid (rn ≤ 1048576 ∧ ∀ x ∈ rs, x.s.size ≤ 1048576) := hl (by omega)
  obtain ⟨q0, q1, q2⟩ := HP.out w1 g1
  have hcon := H2.out w1 r g (by omega) hr1
  clear hl H2
  have h0' : ¬ r < 0 := h0
  go_wp2_with fail
  refine hcon.mono ?_
  rintro e w2 ⟨⟨r2, rfl, hr2, hl⟩, g2⟩
  have g := g.trans (g2.mono g.size)
  clear hcon q0 q1 q2 g1 g2
  by_cases h2 : r2 < 0
  · clear hl
    go_wp2_with fail
    go_ret
    exact ⟨⟨-1, rfl, fun h => absurd h (by omega)⟩, g⟩
  obtain ⟨hn, HS⟩ := hl (by omega)
  have HS : Hid (n + nS xs ≤ 1048576 ∧ ∀ x ∈ xs, TxOk 1048576 x) := ⟨by omega, HS⟩
  have h2' : ¬ r2 < 0 := h2
  clear hl hn
  go_wp2_with fail
  go_ret
  exact ⟨⟨r2, rfl, fun _ => ⟨HL.out.1, HL.out.2, HS.out.1, HS.out.2⟩⟩, g⟩

/-- Three cells of a plain one, new. -/
structure P3f (w : World) (b : Nat) (x y z : Value) : Prop where
  c : P3 w b x y z
  f0 : w.frozen? ⟨b, 0, none⟩ = false
  f1 : w.frozen? ⟨b, 1, none⟩ = false
  f2 : w.frozen? ⟨b, 2, none⟩ = false
theorem P3f.below {w w' : World} {b B : Nat} {x y z : Value} (h : P3f w b x y z) (hb : Below B w w') (hl : b < B) : P3f w' b x y z :=
  ⟨h.c.below hb hl, (hb.frozen (p := ⟨b, 0, none⟩) hl).trans h.f0, (hb.frozen (p := ⟨b, 1, none⟩) hl).trans h.f1, (hb.frozen (p := ⟨b, 2, none⟩) hl).trans h.f2⟩
theorem P3f.other {w : World} {b b' o : Nat} {x y z u : Value} (h : P3f w b x y z) (hn : b ≠ b') : P3f (w.setCell ⟨b', o, none⟩ u) b x y z := by
  have ht : Turned b' (b' + 1) w (w.setCell ⟨b', o, none⟩ u) := (Turned.refl _ _ w).setCell (p := ⟨b', o, none⟩) (Nat.le_refl _) (Nat.lt_succ_self _) _
  have hd : b < b' ∨ b' + 1 ≤ b := by omega
  exact ⟨⟨ht.cell h.c.c0 hd, ht.cell h.c.c1 hd, ht.cell h.c.c2 hd⟩, (ht.frozen (p := ⟨b, 0, none⟩) h.c.c0 hd).trans h.f0, (ht.frozen (p := ⟨b, 1, none⟩) h.c.c1 hd).trans h.f1, (ht.frozen (p := ⟨b, 2, none⟩) h.c.c2 hd).trans h.f2⟩
/-- What toPlain hands back. -/
def ToPost (rs : List Rw) (rn : Nat) (xs : List TxV) (n : Nat) (nx : Int) (w : World) (e : Ending) (w' : World) : Prop :=
  ∃ rb b m, e = .returned (.agg #[.slice (some ⟨rb, 0, none⟩) rn rn, .slice (some ⟨b, 0, none⟩) n n, .int .i64 nx]) ∧ Below w.heap.size w w' ∧ SlIn rwE 4 w.heap.size m w' (some ⟨rb, 0, none⟩) rs ∧ OwZ m w'.heap.size w' (some ⟨b, 0, none⟩) xs ∧ w.heap.size ≤ m ∧ m ≤ w'.heap.size

set_option maxHeartbeats 4000000 in
theorem toPlain_any (ra : Option Addr) (rs : List Rw) (rn rc : Nat) (a : Option Addr) (xs : List TxV) (n c : Nat) (nx : Int) (w : World) (hrn : rs.length = rn) (hrm : rn ≤ 1048576) (hr : Rs rwE 4 w ra rs) (hn : xs.length = n) (hm : n ≤ 1048576) (hs : ∀ x ∈ xs, TxOk 1048576 x) (hx : TxRd w a xs) :
    Calls Tryz.prog 7 #[.agg #[.slice ra rn rc, .slice a n c, .int .i64 nx]] w fun e w' => ToPost rs rn xs n nx w e w' := by
  have H1 : Hid (∀ V, Below w.heap.size w V → Calls Tryz.prog 19 #[.slice ra rn rc] V fun e w' => e = .returned (.slice (some ⟨V.heap.size, 0, none⟩) rn rn) ∧ Below V.heap.size V w' ∧ SlIn rwE 4 V.heap.size w'.heap.size w' (some ⟨V.heap.size, 0, none⟩) rs) := fun V hV => toRowS_any ra rs rn rc V hrn hrm (hr.below hV (Nat.le_refl _))
  have H2 : Hid (∀ V, Below w.heap.size w V → Calls Tryz.prog 20 #[.slice a n c] V fun e w' => e = .returned (.slice (some ⟨V.heap.size, 0, none⟩) n n) ∧ Below V.heap.size V w' ∧ OwZ V.heap.size w'.heap.size w' (some ⟨V.heap.size, 0, none⟩) xs) := fun V hV => by
    refine (toTxS_own a xs n c V hn hm hs (hx.below hV (Nat.le_refl _))).mono ?_
    rintro e w' ⟨h1, h2, lo, hi, h3, h4⟩
    refine ⟨h1, h2, ?_⟩
    by_cases hnil : xs = []
    · exact .inl hnil
    · have hl : 0 < xs.length := List.length_pos_iff.2 hnil
      obtain ⟨_, _, _, _, _, _, c4, _⟩ := h3.c 0 _ (List.getElem?_eq_getElem hl)
      exact .inr ⟨_, lo, hi, rfl, h3, ⟨Nat.le_refl _, c4.lt⟩, fun p hp => ⟨Nat.le_of_lt (h4 p hp).1, (h4 p hp).2⟩⟩
  clear hrn hr hn hs hx
  go_enter Tryz.func7, Tryz.ntmps7
  go_upto_region 2 with (fail)
  generalize hY : World.alloc _ _ = Y
  have gY : Below w.heap.size w Y := by rw [← hY]; go_grown
  have A : P3 Y w.heap.size (.slice ra rn rc) (.slice a n c) (.int .i64 nx) := by rw [← hY]; exact ⟨by simp [go_sem], by simp [go_sem], by simp [go_sem]⟩
  have R : P3f Y (w.heap.size + 1) (.slice none 0 0) (.slice none 0 0) (.int .i64 0) := by rw [← hY]; exact ⟨⟨by simp [go_sem], by simp [go_sem], by simp [go_sem]⟩, by simp [go_sem], by simp [go_sem], by simp [go_sem]⟩
  have O : P3f Y (w.heap.size + 1 + 1) (.slice none 0 0) (.slice none 0 0) (.int .i64 0) := by rw [← hY]; exact ⟨⟨by simp [go_sem], by simp [go_sem], by simp [go_sem]⟩, by simp [go_sem], by simp [go_sem], by simp [go_sem]⟩
  clear hY
  obtain ⟨ab, hab⟩ : ∃ ab, w.heap.size = ab := ⟨_, rfl⟩
  obtain ⟨rb, hrb⟩ : ∃ rb, ab + 1 = rb := ⟨_, rfl⟩
  obtain ⟨ob, hob⟩ : ∃ ob, rb + 1 = ob := ⟨_, rfl⟩
  have hwr : w.heap.size ≤ rb := by omega
  have hwo : w.heap.size ≤ ob := by omega
  have hab1 : ab ≠ ob := by omega
  have hab2 : rb ≠ ob := by omega
  have hab3 : ob ≠ rb := by omega
  have hrl : rb ≤ ob := by omega
  rw [hab] at A R O
  rw [hrb] at R O
  rw [hob] at O
  simp only [hab]
  try simp only [hrb]
  try simp only [hob]
  have HAB : Hid (w.heap.size = ab) := hab
  clear hab hrb hob
  have lA := A.lt
  have lR := R.c.lt
  have lO := O.c.lt
  obtain ⟨q0, q1, q2⟩ := A
  have hcon := H1.out Y gY
  go_wp2_with fail
  refine hcon.mono ?_
  rintro e w1 ⟨rfl, g1, S1⟩
  have A : P3 w1 ab (.slice ra rn rc) (.slice a n c) (.int .i64 nx) := P3.below ⟨q0, q1, q2⟩ g1 lA
  have R := R.below g1 lR
  have O := O.below g1 lO
  have hm1 : Y.heap.size ≤ w1.heap.size := g1.size
  have gy := gY.trans (g1.mono gY.size)
  obtain ⟨yb, hyb⟩ : ∃ yb, Y.heap.size = yb := ⟨_, rfl⟩
  rw [hyb] at S1 hm1 lO lR lA
  simp only [hyb]
  have HYB : Hid (Y.heap.size = yb) := hyb
  have hwy : w.heap.size ≤ yb := by rw [← hyb]; exact gY.size
  clear hcon q0 q1 q2 hyb g1 H1
  obtain ⟨⟨o0, o1, o2⟩, f0, f1, f2⟩ := O
  go_upto_region 3 with (fail)
  have A : P3 (w1.setCell ⟨ob, 0, none⟩ (.slice (some ⟨yb, 0, none⟩) rn rn)) ab (.slice ra rn rc) (.slice a n c) (.int .i64 nx) := by
    have ht : Turned ob (ob + 1) w1 (w1.setCell ⟨ob, 0, none⟩ (.slice (some ⟨yb, 0, none⟩) rn rn)) := (Turned.refl _ _ w1).setCell (p := ⟨ob, 0, none⟩) (Nat.le_refl _) (Nat.lt_succ_self _) _
    have hd : ab < ob ∨ ob + 1 ≤ ab := by omega
    exact ⟨ht.cell A.c0 hd, ht.cell A.c1 hd, ht.cell A.c2 hd⟩
  have R : P3f (w1.setCell ⟨ob, 0, none⟩ (.slice (some ⟨yb, 0, none⟩) rn rn)) rb (.slice none 0 0) (.slice none 0 0) (.int .i64 0) := R.other hab2
  have O : P3f (w1.setCell ⟨ob, 0, none⟩ (.slice (some ⟨yb, 0, none⟩) rn rn)) ob (.slice (some ⟨yb, 0, none⟩) rn rn) (.slice none 0 0) (.int .i64 0) := ⟨⟨by simp [go_sem, o0], by rw [cell_off (by omega)]; exact o1, by rw [cell_off (by omega)]; exact o2⟩, by rw [World.frozen?_setCell]; exact f0, by rw [World.frozen?_setCell]; exact f1, by rw [World.frozen?_setCell]; exact f2⟩
  have S1 : SlIn rwE 4 yb w1.heap.size (w1.setCell ⟨ob, 0, none⟩ (.slice (some ⟨yb, 0, none⟩) rn rn)) (some ⟨yb, 0, none⟩) rs := S1.turned ((Turned.refl ob (ob + 1) w1).setCell (p := ⟨ob, 0, none⟩) (Nat.le_refl _) (Nat.lt_succ_self _) _) (.inr (by omega))
  have gz : Below w.heap.size w (w1.setCell ⟨ob, 0, none⟩ (.slice (some ⟨yb, 0, none⟩) rn rn)) := gy.trans (Turned.toBelow (lo := ob) (hi := ob + 1) ((Turned.refl _ _ w1).setCell (p := ⟨ob, 0, none⟩) (Nat.le_refl _) (Nat.lt_succ_self _) _) gy.size hwo)
  have hz1 : w1.heap.size ≤ (w1.setCell ⟨ob, 0, none⟩ (.slice (some ⟨yb, 0, none⟩) rn rn)).heap.size := by simp
  clear o0 o1 o2 f0 f1 f2 gy
  generalize w1.setCell ⟨ob, 0, none⟩ (.slice (some ⟨yb, 0, none⟩) rn rn) = Z at A R O S1 gz hz1 ⊢
  obtain ⟨mm, hmm⟩ : ∃ mm, w1.heap.size = mm := ⟨_, rfl⟩
  rw [hmm] at S1 hz1 hm1
  clear hmm
  obtain ⟨q0, q1, q2⟩ := A
  have hcon := H2.out Z gz
  go_wp2_with fail
  refine hcon.mono ?_
  rintro e w2 ⟨rfl, g2, S2⟩
  have R := R.below g2 (by omega)
  have O := O.below g2 (by omega)
  have A : P3 w2 ab (.slice ra rn rc) (.slice a n c) (.int .i64 nx) := P3.below ⟨q0, q1, q2⟩ g2 (by omega)
  have S1 : SlIn rwE 4 yb mm w2 (some ⟨yb, 0, none⟩) rs := S1.turned (Turned.ofBelow (lo := 0) (hi := 0) g2) (.inr (Nat.zero_le _))
  have gz2 := gz.trans (g2.mono gz.size)
  have hz2 : Z.heap.size ≤ w2.heap.size := g2.size
  clear hcon q0 q1 q2 g2 H2
  generalize Z.heap.size = zb at S2 hz1 hz2 ⊢
  obtain ⟨q0, q1, q2⟩ := A
  obtain ⟨⟨o0, o1, o2⟩, f0, f1, f2⟩ := O
  obtain ⟨⟨r0, r1, r2⟩, e0, e1, e2⟩ := R
  have hwz : w.heap.size ≤ zb := by omega
  have hobz : ob + 1 ≤ zb := by omega
  have hrbz : rb + 1 ≤ zb := by omega
  have hoby : ob + 1 ≤ yb := by omega
  have hrby : rb + 1 ≤ yb := by omega
  go_wp2_with fail
  refine bodyPost_ret (v := .agg #[.slice (some ⟨yb, 0, none⟩) rn rn, .slice (some ⟨zb, 0, none⟩) n n, .int .i64 nx]) (by simp [results, Tryz.results7, go_sem, *]) rfl ?_
  refine ⟨yb, zb, mm, rfl, ?_, ?_, ?_, by omega, ?_⟩
  · exact gz2.trans (Turned.toBelow (lo := rb) (hi := ob + 1) (by repeat' (first | exact Turned.refl _ _ w2 | refine Turned.setCell ?_ (by dsimp only; omega) (by dsimp only; omega) _)) gz2.size hwr)
  · exact (SlIn.turned (lo := rb) (hi := ob + 1) (w := w2) S1 (by repeat' (first | exact Turned.refl _ _ w2 | refine Turned.setCell ?_ (by dsimp only; omega) (by dsimp only; omega) _)) (.inr (by omega))).wide (by omega) (Nat.le_refl _)
  · refine (OwZ.low (lo := rb) (hi := ob + 1) (w := w2) S2 (by repeat' (first | exact Turned.refl _ _ w2 | refine Turned.setCell ?_ (by dsimp only; omega) (by dsimp only; omega) _)) (by omega)).wide (by omega) ?_
    simp
  · simp
    omega

end Go.Proofs.YtmboclfgldgefaaGreat
