/-
  Both NewMiner.
-/
import Derived.Test.YtonngopnhpmjaaaAMres
import Derived.Test.YtonngopnhpmjaaaAVie
import Derived.Test.YtonngopnhpmjaaaAMfa
import Derived.Test.YtonngopnhpmjaaaAOpg

namespace Go.Proofs.Ytonngopnhpmjaaa
open Go.RowKit
set_option linter.unusedVariables false
set_option maxRecDepth 20000

/-- The pages of a new miner. -/
def nmP (ps : List (List Int)) : List (List Int) := if viewQ ps = 0 then ps else []
/-- What NewMiner hands back. -/
def NmPost (q : Int) (qs : List (List Int)) (w : World) (e : Ending) (w' : World) : Prop :=
  ∃ b d, e = .returned (.agg #[.int .i64 q, .bool false, .bool false, .int .i64 0, .slice none 0 0, .slice b qs.length d, .slice none 0 0]) ∧ Below w.heap.size w w' ∧ EdH w.heap.size w'.heap.size w' none [] b qs
theorem edH_nil (lo hi : Nat) (w : World) : EdH lo hi w none [] none [] := ⟨fun _ => False, fun _ => False, .inl rfl, .inl rfl, fun _ h => h.elim, fun _ h => h.elim, fun _ h => h.elim⟩
theorem nm_bad {q : Int} {w w' : World} (g : Below w.heap.size w w') : NmPost q [] w (.returned (.agg #[.int .i64 q, .bool false, .bool false, .int .i64 0, .slice none 0 0, .slice none 0 0, .slice none 0 0])) w' := ⟨none, 0, rfl, g, edH_nil _ _ _⟩
theorem nm_own {ps : List (List Int)} {w w1 w2 : World} {v : Value} {V : List Value} (h1 : w.heap.size ≤ w1.heap.size) (hP : PgB w1.heap.size w2 v ps V) (hS : SepV V) : ∃ b d, v = .slice b ps.length d ∧ EdH w.heap.size w2.heap.size w2 none [] b ps := by
  obtain ⟨b, d, e, o⟩ := hP.own hS
  refine ⟨b, d, e, fun _ => False, blkP v V, .inl rfl, ?_, fun _ h => h.elim, fun k hk => ?_, fun _ h => h.elim⟩
  · rcases o with o | ⟨g1, A, C, F, e3, o⟩
    · exact .inl o
    · exact .inr ⟨g1, A, C, F, e3, o⟩
  · have := hP.lt hk
    omega
theorem EdH.top {lo hi hi' : Nat} {w : World} {a b : Option Addr} {es : List (Int × List Int)} {ps : List (List Int)} (h : EdH lo hi w a es b ps) (hh : hi ≤ hi') : EdH lo hi' w a es b ps := by
  obtain ⟨S1, S2, h1, h2, l1, l2, d⟩ := h
  exact ⟨S1, S2, h1, h2, fun k hk => ⟨(l1 k hk).1, Nat.lt_of_lt_of_le (l1 k hk).2 hh⟩, fun k hk => ⟨(l2 k hk).1, Nat.lt_of_lt_of_le (l2 k hk).2 hh⟩, d⟩

theorem PartP.readsN {w : World} {g n : Nat} {ps : List (List Int)} {F : Nat → Nat} (h : PartP w g n n ps F) (hn : ps.length = n) : PgRdN w (some ⟨g, 0, none⟩) ps := by
  refine .inr ⟨g, 0, rfl, fun i zs hz => ?_⟩
  have hi : i < n := by rw [← hn]; exact (List.getElem?_eq_some_iff.1 hz).1
  obtain ⟨h1, h2⟩ := h.c i zs hi hz
  exact ⟨_, _, by rw [Nat.zero_add]; exact h1, Nat.le_refl _, h2.reads⟩

theorem view_all {ps : List (List Int)} (h : viewQ ps = 0) : ps.length ≤ 12 ∧ pagesQ ps = 0 := by
  have h1 : allQ ps = 0 := by
    unfold viewQ at h
    split at h
    · assumption
    · exact h
  have h12 : ps.length ≤ 12 := by
    unfold allQ at h1
    split at h1
    · simp at h1
    · omega
  unfold allQ at h1
  rw [if_neg (by omega)] at h1
  exact ⟨h12, h1⟩
theorem nm_big {ps : List (List Int)} (hp : PgOk ps) : bigQ (nmP ps) ≤ 13000000 := by
  unfold nmP
  split
  · next h =>
    obtain ⟨h12, hq⟩ := view_all h
    exact bigQ_le (fun zs hz => Nat.le_of_eq (fine_of (hp zs hz).2 (pageC_fine (pagesQ_zero hq zs hz)).1).pg.len) (by omega)
  · exact bigQ_le (by simp) (by simp)

set_option maxHeartbeats 2000000 in
theorem implNewMiner_any (a : Option Addr) (ps : List (List Int)) (n c : Nat) (w : World) (hn : ps.length = n) (hm : n ≤ 1048576) (hp : PgOk ps) (hr : PgRdN w a ps) (hrd : PgRead w a ps) :
    Calls Try.prog 25 #[.slice a n c] w fun e w' => NmPost (viewQ ps) (nmP ps) w e w' := by
  have HN : Hid (ps.length = n) := hn
  have HP : Hid (PgOk ps) := hp
  have HR : Hid (∀ W, Below w.heap.size w W → PgRdN W a ps) := fun W hW => hr.below hW (Nat.le_refl _)
  have HRd : Hid (∀ W, Below w.heap.size w W → PgRead W a ps) := fun W hW => hrd.below hW (Nat.le_refl _)
  obtain ⟨q, hq⟩ : ∃ q, q = viewQ ps := ⟨_, rfl⟩
  have HQ : Hid (viewQ ps = q) := hq.symm
  obtain ⟨qs, hqs⟩ : ∃ qs, qs = nmP ps := ⟨_, rfl⟩
  have HQs : Hid (nmP ps = qs) := hqs.symm
  rw [HQ.out, HQs.out]
  clear hn hp hr hrd hq hqs
  go_enter Try.func25, Try.ntmps25
  go_upto_region 1 with (fail)
  generalize hY : World.alloc _ _ = Y
  have gY : Below w.heap.size w Y := by rw [← hY]; go_grown
  have z : ∀ i : Nat, i < 7 → Y.frozen? ⟨w.heap.size, i, none⟩ = false := by intro i _; rw [← hY]; simp [go_sem]
  have cs : (Y.cell? ⟨w.heap.size, 0, none⟩ = some (.int .i64 0) ∧ Y.cell? ⟨w.heap.size, 1, none⟩ = some (.bool false) ∧ Y.cell? ⟨w.heap.size, 2, none⟩ = some (.bool false) ∧ Y.cell? ⟨w.heap.size, 3, none⟩ = some (.int .i64 0)) ∧ (Y.cell? ⟨w.heap.size, 4, none⟩ = some (.slice none 0 0) ∧ Y.cell? ⟨w.heap.size, 5, none⟩ = some (.slice none 0 0) ∧ Y.cell? ⟨w.heap.size, 6, none⟩ = some (.slice none 0 0)) := by rw [← hY]; exact ⟨⟨by simp [go_sem], by simp [go_sem], by simp [go_sem], by simp [go_sem]⟩, by simp [go_sem], by simp [go_sem], by simp [go_sem]⟩
  have hbY : w.heap.size < Y.heap.size := World.block_lt_of_cell? Y _ cs.1.1
  have HB : Hid (w.heap.size ≤ w.heap.size) := Nat.le_refl _
  clear hY
  have hcon := implPagesFault_any a ps n c Y HN.out (by omega) HP.out (HRd.out Y gY)
  rw [HQ.out] at hcon
  obtain ⟨ob, hob⟩ : ∃ ob, w.heap.size = ob := ⟨_, rfl⟩
  have hobl : w.heap.size ≤ ob := by omega
  rw [hob] at cs hbY z
  simp only [hob]
  go_wp2_with (go_at_call 61; refine hcon.mono ?_)
  rintro e w1 ⟨rfl, g1⟩
  obtain ⟨⟨c0, c1, c2, c3⟩, c4, c5, c6⟩ := cs
  have c0 := (g1.cell (p := ⟨ob, 0, none⟩) hbY).trans c0
  have c1 := (g1.cell (p := ⟨ob, 1, none⟩) hbY).trans c1
  have c2 := (g1.cell (p := ⟨ob, 2, none⟩) hbY).trans c2
  have c3 := (g1.cell (p := ⟨ob, 3, none⟩) hbY).trans c3
  have c4 := (g1.cell (p := ⟨ob, 4, none⟩) hbY).trans c4
  have c5 := (g1.cell (p := ⟨ob, 5, none⟩) hbY).trans c5
  have c6 := (g1.cell (p := ⟨ob, 6, none⟩) hbY).trans c6
  have Z : Hid (∀ i : Nat, i < 7 → w1.frozen? ⟨ob, i, none⟩ = false) := fun i hi => (g1.frozen (p := ⟨ob, i, none⟩) hbY).trans (z i hi)
  have g : Below w.heap.size w w1 := gY.trans (g1.mono gY.size)
  have hb1 : ob < w1.heap.size := Nat.lt_of_lt_of_le hbY g1.size
  clear hcon g1 z gY hbY
  by_cases hq0 : q = 0
  · have HE : Hid (qs = ps) := by show _ = _; rw [← HQs.out]; unfold nmP; rw [if_pos (by rw [HQ.out]; exact hq0)]
    have dq : (q != 0) = false := by simpa using hq0
    have hown := ownPages_any a ps n c w1 HN.out hm HP.out (HR.out w1 g)
    go_wp2_with (go_at_call 69; refine hown.mono ?_)
    rintro e w2 ⟨v, V, rfl, g2, hP, hS⟩
    obtain ⟨b, d, rfl, hE⟩ := nm_own g.size hP hS
    have f0 := (g2.frozen (p := ⟨ob, 0, none⟩) hb1).trans (Z.out 0 (by omega))
    have f1 := (g2.frozen (p := ⟨ob, 1, none⟩) hb1).trans (Z.out 1 (by omega))
    have f2 := (g2.frozen (p := ⟨ob, 2, none⟩) hb1).trans (Z.out 2 (by omega))
    have f3 := (g2.frozen (p := ⟨ob, 3, none⟩) hb1).trans (Z.out 3 (by omega))
    have f4 := (g2.frozen (p := ⟨ob, 4, none⟩) hb1).trans (Z.out 4 (by omega))
    have f5 := (g2.frozen (p := ⟨ob, 5, none⟩) hb1).trans (Z.out 5 (by omega))
    have f6 := (g2.frozen (p := ⟨ob, 6, none⟩) hb1).trans (Z.out 6 (by omega))
    have c0 := (g2.cell (p := ⟨ob, 0, none⟩) hb1).trans c0
    have c1 := (g2.cell (p := ⟨ob, 1, none⟩) hb1).trans c1
    have c2 := (g2.cell (p := ⟨ob, 2, none⟩) hb1).trans c2
    have c3 := (g2.cell (p := ⟨ob, 3, none⟩) hb1).trans c3
    have c4 := (g2.cell (p := ⟨ob, 4, none⟩) hb1).trans c4
    have c5 := (g2.cell (p := ⟨ob, 5, none⟩) hb1).trans c5
    have c6 := (g2.cell (p := ⟨ob, 6, none⟩) hb1).trans c6
    have HFin : Hid (∀ W, Turned ob (ob + 1) w2 W → NmPost 0 ps w (.returned (.agg #[.int .i64 0, .bool false, .bool false, .int .i64 0, .slice none 0 0, .slice b ps.length d, .slice none 0 0])) W) := fun W hT => by
      have hlow : ∀ k, blkP (.slice b ps.length d) V k → w1.heap.size ≤ k := fun k hk => (hP.lt hk).1
      have hE2 : EdH w1.heap.size w2.heap.size w2 none [] b ps := by
        obtain ⟨b', d', e', h'⟩ := nm_own (Nat.le_refl w1.heap.size) hP hS
        cases e'
        exact h'
      have hE3 := hE2.turned hT (.inr (by omega))
      have g' : Below w.heap.size w W := (g.trans (g2.mono g.size)).trans (hT.toBelow (by have := g.size; have := g2.size; omega) hobl)
      obtain ⟨S1, S2, h1, h2, l1, l2, dd⟩ := hE3
      refine ⟨b, d, rfl, g', S1, S2, h1, h2, fun k hk => ?_, fun k hk => ?_, dd⟩
      · have := l1 k hk; have := g.size; have := hT.size; omega
      · have := l2 k hk; have := g.size; have := hT.size; omega
    have HN' := HN.out
    rw [HN'] at HFin ⊢
    clear HN'
    clear hown hP hS hE g2 g Z HR HRd HQ HQs
    go_wp2_with fail
    refine bodyPost_ret (v := .agg #[.int .i64 0, .bool false, .bool false, .int .i64 0, .slice none 0 0, .slice b n d, .slice none 0 0]) (by simp [results, Try.results25, go_sem, *]) rfl ?_
    rw [HE.out, hq0]
    refine HFin.out _ ?_
    exact (((((((Turned.refl _ _ w2).setCell (p := ⟨ob, 0, none⟩) (Nat.le_refl _) (Nat.lt_succ_self _) _).setCell (p := ⟨ob, 1, none⟩) (Nat.le_refl _) (Nat.lt_succ_self _) _).setCell (p := ⟨ob, 2, none⟩) (Nat.le_refl _) (Nat.lt_succ_self _) _).setCell (p := ⟨ob, 3, none⟩) (Nat.le_refl _) (Nat.lt_succ_self _) _).setCell (p := ⟨ob, 4, none⟩) (Nat.le_refl _) (Nat.lt_succ_self _) _).setCell (p := ⟨ob, 5, none⟩) (Nat.le_refl _) (Nat.lt_succ_self _) _).setCell (p := ⟨ob, 6, none⟩) (Nat.le_refl _) (Nat.lt_succ_self _) _
  · have HE : Hid (qs = []) := by show _ = _; rw [← HQs.out]; unfold nmP; rw [if_neg (by rw [HQ.out]; exact hq0)]
    have dq : (q != 0) = true := by simpa using hq0
    have f0 := Z.out 0 (by omega)
    have f1 := Z.out 1 (by omega)
    have f2 := Z.out 2 (by omega)
    have f3 := Z.out 3 (by omega)
    have f4 := Z.out 4 (by omega)
    have f5 := Z.out 5 (by omega)
    have f6 := Z.out 6 (by omega)
    clear Z HR HRd hq0
    go_wp2_with fail
    refine bodyPost_ret (v := .agg #[.int .i64 q, .bool false, .bool false, .int .i64 0, .slice none 0 0, .slice none 0 0, .slice none 0 0]) (by simp [results, Try.results25, go_sem, *]) rfl ?_
    rw [HE.out]
    refine nm_bad (g.trans (Turned.toBelow (lo := ob) (hi := ob + 1) ?_ g.size hobl))
    exact (((((((Turned.refl _ _ w1).setCell (p := ⟨ob, 0, none⟩) (Nat.le_refl _) (Nat.lt_succ_self _) _).setCell (p := ⟨ob, 1, none⟩) (Nat.le_refl _) (Nat.lt_succ_self _) _).setCell (p := ⟨ob, 2, none⟩) (Nat.le_refl _) (Nat.lt_succ_self _) _).setCell (p := ⟨ob, 3, none⟩) (Nat.le_refl _) (Nat.lt_succ_self _) _).setCell (p := ⟨ob, 4, none⟩) (Nat.le_refl _) (Nat.lt_succ_self _) _).setCell (p := ⟨ob, 5, none⟩) (Nat.le_refl _) (Nat.lt_succ_self _) _).setCell (p := ⟨ob, 6, none⟩) (Nat.le_refl _) (Nat.lt_succ_self _) _

theorem l9Bad_any (q : Int) (w : World) : Calls Try.prog 66 #[.int .i64 q] w fun e w' => e = .returned (.agg #[.int .i64 q, .bool false, .bool false, .int .i64 0, .slice none 0 0, .slice none 0 0, .slice none 0 0]) ∧ Below w.heap.size w w' := by
  go_enter Try.func66, Try.ntmps66
  go_wp2_with fail
  refine bodyPost_ret (v := .agg #[.int .i64 q, .bool false, .bool false, .int .i64 0, .slice none 0 0, .slice none 0 0, .slice none 0 0]) (by simp [results, Try.results66, go_sem]) rfl ?_
  exact ⟨rfl, by go_grown⟩
set_option maxHeartbeats 2000000 in
theorem specNewMiner_any (a : Option Addr) (ps : List (List Int)) (n c : Nat) (w : World) (hn : ps.length = n) (hm : n ≤ 1048576) (hp : PgOk ps) (hr : PgRdN w a ps) (hrd : PgRead w a ps) :
    Calls Try.prog 23 #[.slice a n c] w fun e w' => NmPost (viewQ ps) (nmP ps) w e w' := by
  have HN : Hid (ps.length = n) := hn
  have HP : Hid (PgOk ps) := hp
  have HR : Hid (∀ W, Below w.heap.size w W → PgRdN W a ps) := fun W hW => hr.below hW (Nat.le_refl _)
  have HRd : Hid (∀ W, Below w.heap.size w W → PgRead W a ps) := fun W hW => hrd.below hW (Nat.le_refl _)
  obtain ⟨q, hq⟩ : ∃ q, q = viewQ ps := ⟨_, rfl⟩
  have HQ : Hid (viewQ ps = q) := hq.symm
  obtain ⟨qs, hqs⟩ : ∃ qs, qs = nmP ps := ⟨_, rfl⟩
  have HQs : Hid (nmP ps = qs) := hqs.symm
  rw [HQ.out, HQs.out]
  clear hn hp hr hrd hq hqs
  go_enter Try.func23, Try.ntmps23
  go_upto_region 1 with (fail)
  generalize hY : World.alloc _ _ = Y
  have gY : Below w.heap.size w Y := by rw [← hY]; go_grown
  have z : ∀ i : Nat, i < 7 → Y.frozen? ⟨w.heap.size, i, none⟩ = false := by intro i _; rw [← hY]; simp [go_sem]
  have cs : (Y.cell? ⟨w.heap.size, 0, none⟩ = some (.int .i64 0) ∧ Y.cell? ⟨w.heap.size, 1, none⟩ = some (.bool false) ∧ Y.cell? ⟨w.heap.size, 2, none⟩ = some (.bool false) ∧ Y.cell? ⟨w.heap.size, 3, none⟩ = some (.int .i64 0)) ∧ (Y.cell? ⟨w.heap.size, 4, none⟩ = some (.slice none 0 0) ∧ Y.cell? ⟨w.heap.size, 5, none⟩ = some (.slice none 0 0) ∧ Y.cell? ⟨w.heap.size, 6, none⟩ = some (.slice none 0 0)) := by rw [← hY]; exact ⟨⟨by simp [go_sem], by simp [go_sem], by simp [go_sem], by simp [go_sem]⟩, by simp [go_sem], by simp [go_sem], by simp [go_sem]⟩
  have hbY : w.heap.size < Y.heap.size := World.block_lt_of_cell? Y _ cs.1.1
  have HB : Hid (w.heap.size ≤ w.heap.size) := Nat.le_refl _
  clear hY
  have hcon := l6Fault_any a ps n c Y HN.out (by omega) HP.out (HRd.out Y gY)
  rw [HQ.out] at hcon
  obtain ⟨ob, hob⟩ : ∃ ob, w.heap.size = ob := ⟨_, rfl⟩
  have hobl : w.heap.size ≤ ob := by omega
  rw [hob] at cs hbY z
  simp only [hob]
  go_wp2_with (go_at_call 65; refine hcon.mono ?_)
  rintro e w1 ⟨rfl, g1⟩
  obtain ⟨⟨c0, c1, c2, c3⟩, c4, c5, c6⟩ := cs
  have c0 := (g1.cell (p := ⟨ob, 0, none⟩) hbY).trans c0
  have c1 := (g1.cell (p := ⟨ob, 1, none⟩) hbY).trans c1
  have c2 := (g1.cell (p := ⟨ob, 2, none⟩) hbY).trans c2
  have c3 := (g1.cell (p := ⟨ob, 3, none⟩) hbY).trans c3
  have c4 := (g1.cell (p := ⟨ob, 4, none⟩) hbY).trans c4
  have c5 := (g1.cell (p := ⟨ob, 5, none⟩) hbY).trans c5
  have c6 := (g1.cell (p := ⟨ob, 6, none⟩) hbY).trans c6
  have Z : Hid (∀ i : Nat, i < 7 → w1.frozen? ⟨ob, i, none⟩ = false) := fun i hi => (g1.frozen (p := ⟨ob, i, none⟩) hbY).trans (z i hi)
  have g : Below w.heap.size w w1 := gY.trans (g1.mono gY.size)
  have hb1 : ob < w1.heap.size := Nat.lt_of_lt_of_le hbY g1.size
  clear hcon g1 z gY hbY
  by_cases hq0 : q = 0
  · have HE : Hid (qs = ps) := by show _ = _; rw [← HQs.out]; unfold nmP; rw [if_pos (by rw [HQ.out]; exact hq0)]
    have dq : (q != 0) = false := by simpa using hq0
    have hown := l7Copy_any a ps n c w1 HN.out hm HP.out (HR.out w1 g)
    go_wp2_with (go_at_call 67; refine hown.mono ?_)
    rintro e w2 ⟨v, V, rfl, g2, hP, hS⟩
    obtain ⟨b, d, rfl, hE⟩ := nm_own g.size hP hS
    have f0 := (g2.frozen (p := ⟨ob, 0, none⟩) hb1).trans (Z.out 0 (by omega))
    have f1 := (g2.frozen (p := ⟨ob, 1, none⟩) hb1).trans (Z.out 1 (by omega))
    have f2 := (g2.frozen (p := ⟨ob, 2, none⟩) hb1).trans (Z.out 2 (by omega))
    have f3 := (g2.frozen (p := ⟨ob, 3, none⟩) hb1).trans (Z.out 3 (by omega))
    have f4 := (g2.frozen (p := ⟨ob, 4, none⟩) hb1).trans (Z.out 4 (by omega))
    have f5 := (g2.frozen (p := ⟨ob, 5, none⟩) hb1).trans (Z.out 5 (by omega))
    have f6 := (g2.frozen (p := ⟨ob, 6, none⟩) hb1).trans (Z.out 6 (by omega))
    have c0 := (g2.cell (p := ⟨ob, 0, none⟩) hb1).trans c0
    have c1 := (g2.cell (p := ⟨ob, 1, none⟩) hb1).trans c1
    have c2 := (g2.cell (p := ⟨ob, 2, none⟩) hb1).trans c2
    have c3 := (g2.cell (p := ⟨ob, 3, none⟩) hb1).trans c3
    have c4 := (g2.cell (p := ⟨ob, 4, none⟩) hb1).trans c4
    have c5 := (g2.cell (p := ⟨ob, 5, none⟩) hb1).trans c5
    have c6 := (g2.cell (p := ⟨ob, 6, none⟩) hb1).trans c6
    have HFin : Hid (∀ W, Turned ob (ob + 1) w2 W → NmPost 0 ps w (.returned (.agg #[.int .i64 0, .bool false, .bool false, .int .i64 0, .slice none 0 0, .slice b ps.length d, .slice none 0 0])) W) := fun W hT => by
      have hlow : ∀ k, blkP (.slice b ps.length d) V k → w1.heap.size ≤ k := fun k hk => (hP.lt hk).1
      have hE2 : EdH w1.heap.size w2.heap.size w2 none [] b ps := by
        obtain ⟨b', d', e', h'⟩ := nm_own (Nat.le_refl w1.heap.size) hP hS
        cases e'
        exact h'
      have hE3 := hE2.turned hT (.inr (by omega))
      have g' : Below w.heap.size w W := (g.trans (g2.mono g.size)).trans (hT.toBelow (by have := g.size; have := g2.size; omega) hobl)
      obtain ⟨S1, S2, h1, h2, l1, l2, dd⟩ := hE3
      refine ⟨b, d, rfl, g', S1, S2, h1, h2, fun k hk => ?_, fun k hk => ?_, dd⟩
      · have := l1 k hk; have := g.size; have := hT.size; omega
      · have := l2 k hk; have := g.size; have := hT.size; omega
    have HN' := HN.out
    rw [HN'] at HFin ⊢
    clear HN'
    clear hown hP hS hE g2 g Z HR HRd HQ HQs
    go_wp2_with fail
    refine bodyPost_ret (v := .agg #[.int .i64 0, .bool false, .bool false, .int .i64 0, .slice none 0 0, .slice b n d, .slice none 0 0]) (by simp [results, Try.results23, go_sem, *]) rfl ?_
    rw [HE.out, hq0]
    refine HFin.out _ ?_
    exact (((((((Turned.refl _ _ w2).setCell (p := ⟨ob, 0, none⟩) (Nat.le_refl _) (Nat.lt_succ_self _) _).setCell (p := ⟨ob, 1, none⟩) (Nat.le_refl _) (Nat.lt_succ_self _) _).setCell (p := ⟨ob, 2, none⟩) (Nat.le_refl _) (Nat.lt_succ_self _) _).setCell (p := ⟨ob, 3, none⟩) (Nat.le_refl _) (Nat.lt_succ_self _) _).setCell (p := ⟨ob, 4, none⟩) (Nat.le_refl _) (Nat.lt_succ_self _) _).setCell (p := ⟨ob, 5, none⟩) (Nat.le_refl _) (Nat.lt_succ_self _) _).setCell (p := ⟨ob, 6, none⟩) (Nat.le_refl _) (Nat.lt_succ_self _) _
  · have HE : Hid (qs = []) := by show _ = _; rw [← HQs.out]; unfold nmP; rw [if_neg (by rw [HQ.out]; exact hq0)]
    have dq : (q != 0) = true := by simpa using hq0
    have hbad := l9Bad_any q w1
    clear HR HRd hq0
    go_wp2_with (go_at_call 66; refine hbad.mono ?_)
    rintro e w2 ⟨rfl, g2⟩
    have f0 := (g2.frozen (p := ⟨ob, 0, none⟩) hb1).trans (Z.out 0 (by omega))
    have c0 := (g2.cell (p := ⟨ob, 0, none⟩) hb1).trans c0
    have f1 := (g2.frozen (p := ⟨ob, 1, none⟩) hb1).trans (Z.out 1 (by omega))
    have c1 := (g2.cell (p := ⟨ob, 1, none⟩) hb1).trans c1
    have f2 := (g2.frozen (p := ⟨ob, 2, none⟩) hb1).trans (Z.out 2 (by omega))
    have c2 := (g2.cell (p := ⟨ob, 2, none⟩) hb1).trans c2
    have f3 := (g2.frozen (p := ⟨ob, 3, none⟩) hb1).trans (Z.out 3 (by omega))
    have c3 := (g2.cell (p := ⟨ob, 3, none⟩) hb1).trans c3
    have f4 := (g2.frozen (p := ⟨ob, 4, none⟩) hb1).trans (Z.out 4 (by omega))
    have c4 := (g2.cell (p := ⟨ob, 4, none⟩) hb1).trans c4
    have f5 := (g2.frozen (p := ⟨ob, 5, none⟩) hb1).trans (Z.out 5 (by omega))
    have c5 := (g2.cell (p := ⟨ob, 5, none⟩) hb1).trans c5
    have f6 := (g2.frozen (p := ⟨ob, 6, none⟩) hb1).trans (Z.out 6 (by omega))
    have c6 := (g2.cell (p := ⟨ob, 6, none⟩) hb1).trans c6
    have g := g.trans (g2.mono g.size)
    clear Z hbad g2
    go_wp2_with fail
    refine bodyPost_ret (v := .agg #[.int .i64 q, .bool false, .bool false, .int .i64 0, .slice none 0 0, .slice none 0 0, .slice none 0 0]) (by simp [results, Try.results23, go_sem, *]) rfl ?_
    rw [HE.out]
    refine nm_bad (g.trans (Turned.toBelow (lo := ob) (hi := ob + 1) ?_ g.size hobl))
    exact (((((((Turned.refl _ _ w2).setCell (p := ⟨ob, 0, none⟩) (Nat.le_refl _) (Nat.lt_succ_self _) _).setCell (p := ⟨ob, 1, none⟩) (Nat.le_refl _) (Nat.lt_succ_self _) _).setCell (p := ⟨ob, 2, none⟩) (Nat.le_refl _) (Nat.lt_succ_self _) _).setCell (p := ⟨ob, 3, none⟩) (Nat.le_refl _) (Nat.lt_succ_self _) _).setCell (p := ⟨ob, 4, none⟩) (Nat.le_refl _) (Nat.lt_succ_self _) _).setCell (p := ⟨ob, 5, none⟩) (Nat.le_refl _) (Nat.lt_succ_self _) _).setCell (p := ⟨ob, 6, none⟩) (Nat.le_refl _) (Nat.lt_succ_self _) _

end Go.Proofs.Ytonngopnhpmjaaa
