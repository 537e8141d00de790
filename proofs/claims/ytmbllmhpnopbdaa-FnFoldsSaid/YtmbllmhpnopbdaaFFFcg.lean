/-
  The model's FoldChange.
-/
import Derived.Test.YtmbllmhpnopbdaaFFFcf

namespace Go.Proofs.Ytmbllmhpnopbdaa
open Go.RowKit Go.Maps
set_option linter.unusedVariables false
set_option maxRecDepth 20000

/-- What FoldChange hands back. -/
def FcPost (q : Int) (L : List Chg) (w : World) (e : Ending) (w' : World) : Prop :=
  ∃ v, e = .returned (.agg #[.int .i64 q, v]) ∧ Below w.heap.size w w' ∧ w'.ownsRow w.heap.size 28 10 v L.length (flat chE L)
theorem FcPost.form {q : Int} {L : List Chg} {w w' : World} {e : Ending} (h : FcPost q L w e w') : ∃ a c, e = .returned (.agg #[.int .i64 q, .slice a L.length c]) ∧ Below w.heap.size w w' ∧ SlIn chE 10 w.heap.size w'.heap.size w' a L := by
  obtain ⟨v, rfl, g, ho⟩ := h
  obtain ⟨a, c, rfl, _, hi, _⟩ := SlIn.ofRow chE_len ho
  exact ⟨a, c, rfl, g, hi⟩
theorem fc_bad {q : Int} {w w' : World} (g : Below w.heap.size w w') : FcPost q [] w (.returned (.agg #[.int .i64 q, .slice none 0 0])) w' := ⟨_, rfl, g, ownsRow_nil _ _ _ _⟩

/-- The cells of an answer of changes. -/
structure Rc2 (W : World) (b : Nat) : Prop where
  c0 : W.cell? ⟨b, 0, none⟩ = some (.int .i64 0)
  c1 : W.cell? ⟨b, 1, none⟩ = some (.slice none 0 0)
  f0 : W.frozen? ⟨b, 0, none⟩ = false
  f1 : W.frozen? ⟨b, 1, none⟩ = false
theorem Rc2.lt {W : World} {b : Nat} (h : Rc2 W b) : b < W.heap.size := World.block_lt_of_cell? W _ h.c0
theorem Rc2.below {W W' : World} {b : Nat} (h : Rc2 W b) (hb : Below W.heap.size W W') : Rc2 W' b :=
  ⟨(hb.cell h.lt).trans h.c0, (hb.cell (p := ⟨b, 1, none⟩) h.lt).trans h.c1, (hb.frozen (p := ⟨b, 0, none⟩) h.lt).trans h.f0, (hb.frozen (p := ⟨b, 1, none⟩) h.lt).trans h.f1⟩
theorem below_set2 {w W : World} {b : Nat} (g : Below w.heap.size w W) (hb : w.heap.size ≤ b) (u v : Value) : Below w.heap.size w ((W.setCell ⟨b, 0, none⟩ u).setCell ⟨b, 1, none⟩ v) :=
  g.trans (Turned.toBelow (lo := b) (hi := b + 1) (((Turned.refl _ _ W).setCell (p := ⟨b, 0, none⟩) (Nat.le_refl _) (Nat.lt_succ_self _) _).setCell (p := ⟨b, 1, none⟩) (Nat.le_refl _) (Nat.lt_succ_self _) _) g.size hb)

set_option maxHeartbeats 4000000 in
theorem specFoldChange_any (a : Option Addr) (cs : List Chg) (n cc : Nat) (c0 : Bool) (ct ck cv : Int) (cst : ByteArray) (c5 : Bool) (dt dk dv : Int) (dst : ByteArray) (w : World) (hn : cs.length = n) (hm : n ≤ 9223372036854775807) (hs : ∀ x ∈ cs, x.b.s.size ≤ maxLen ∧ x.a.s.size ≤ maxLen) (hb : cst.size ≤ maxLen) (ha : dst.size ≤ maxLen) (hr : Rs chE 10 w a cs) :
    Calls Try.prog 7 #[.slice a n cc, .agg #[.bool c0, .int .i64 ct, .int .i64 ck, .int .i64 cv, .string cst, .bool c5, .int .i64 dt, .int .i64 dk, .int .i64 dv, .string dst]] w fun e w' => FcPost (fcQ cs ⟨c0, ⟨ct, ck, cv, cst⟩, c5, ⟨dt, dk, dv, dst⟩⟩) (fcL cs ⟨c0, ⟨ct, ck, cv, cst⟩, c5, ⟨dt, dk, dv, dst⟩⟩) w e w' := by
  have HN : Hid (cs.length = n) := hn
  have HR : Hid (∀ W, Below w.heap.size w W → Rs chE 10 W a cs) := fun W hW => hr.below hW (Nat.le_refl _)
  obtain ⟨Q, hQ⟩ : ∃ Q, fcQ cs ⟨c0, ⟨ct, ck, cv, cst⟩, c5, ⟨dt, dk, dv, dst⟩⟩ = Q := ⟨_, rfl⟩
  obtain ⟨L, hL⟩ : ∃ L, fcL cs ⟨c0, ⟨ct, ck, cv, cst⟩, c5, ⟨dt, dk, dv, dst⟩⟩ = L := ⟨_, rfl⟩
  have HQ : Hid (fcQ cs ⟨c0, ⟨ct, ck, cv, cst⟩, c5, ⟨dt, dk, dv, dst⟩⟩ = Q) := hQ
  have HL : Hid (fcL cs ⟨c0, ⟨ct, ck, cv, cst⟩, c5, ⟨dt, dk, dv, dst⟩⟩ = L) := hL
  rw [hQ, hL]
  clear hn hr hQ hL
  go_enter Try.func7, Try.ntmps7
  go_upto_region 1 with (fail)
  generalize hX : World.alloc _ _ = X
  have gX : Below w.heap.size w X := by rw [← hX]; go_grown
  have hC : ChC X w.heap.size 0 ⟨c0, ⟨ct, ck, cv, cst⟩, c5, ⟨dt, dk, dv, dst⟩⟩ := by rw [← hX]; exact ⟨by simp [go_sem], by simp [go_sem], by simp [go_sem], by simp [go_sem], by simp [go_sem], by simp [go_sem], by simp [go_sem], by simp [go_sem], by simp [go_sem], by simp [go_sem]⟩
  have hO : Rc2 X (w.heap.size + 1) := by rw [← hX]; exact ⟨by simp [go_sem], by simp [go_sem], by simp [go_sem], by simp [go_sem]⟩
  clear hX
  obtain ⟨cb, hcb⟩ : ∃ cb, w.heap.size = cb := ⟨_, rfl⟩
  have hcb1 : w.heap.size ≤ cb + 1 := by omega
  rw [hcb] at hC hO
  simp only [hcb]
  clear hcb
  have hli := l9List_any a cs n cc X HN.out hm hs (HR.out X gX)
  obtain ⟨q1, hq1⟩ : ∃ q1, fdQ cs = q1 := ⟨_, rfl⟩
  have HQ1 : Hid (fdQ cs = q1) := hq1
  rw [hq1] at hli
  clear hq1
  go_wp2_with (go_at_call 25; refine hli.mono ?_)
  rintro e W1 ⟨rfl, g1⟩
  have hC := hC.below g1 hC.lt
  have hO := hO.below g1
  have g := gX.trans (g1.mono gX.size)
  clear hli gX g1
  by_cases h1 : q1 = 0
  · have d1 : (q1 != 0) = false := by simpa using h1
    have hch := l9Change_any cb 0 ⟨c0, ⟨ct, ck, cv, cst⟩, c5, ⟨dt, dk, dv, dst⟩⟩ W1 hC hb ha
    obtain ⟨q2, hq2⟩ : ∃ q2, alQ ⟨c0, ⟨ct, ck, cv, cst⟩, c5, ⟨dt, dk, dv, dst⟩⟩ = q2 := ⟨_, rfl⟩
    have HQ2 : Hid (alQ ⟨c0, ⟨ct, ck, cv, cst⟩, c5, ⟨dt, dk, dv, dst⟩⟩ = q2) := hq2
    rw [hq2] at hch
    clear hq2
    go_wp2_with (go_at_call 26; refine hch.mono ?_)
    rintro e W2 ⟨rfl, m2, rfl⟩
    have hC := hC.drews m2
    have hO := hO.below (below_drewN _ _ m2)
    have g : Below w.heap.size w (W1.drewN m2) := g.trans (below_drewN _ _ m2)
    clear hch
    generalize W1.drewN m2 = W2 at hC hO g ⊢
    by_cases h2 : q2 = 0
    · have d2 : (q2 != 0) = false := by simpa using h2
      have h60 : n ≤ 60 := by have := (fdQ_zero (HQ1.out.trans h1)).1; rw [HN.out] at this; exact this
      have hfd := l9Fold_any a cs n cc c0 ct ck cv cst c5 dt dk dv dst W2 HN.out h60 (HR.out W2 g)
      obtain ⟨R, hR⟩ : ∃ R, fdR ⟨c0, ⟨ct, ck, cv, cst⟩, c5, ⟨dt, dk, dv, dst⟩⟩ cs false = R := ⟨_, rfl⟩
      have HRr : Hid (fdR ⟨c0, ⟨ct, ck, cv, cst⟩, c5, ⟨dt, dk, dv, dst⟩⟩ cs false = R) := hR
      rw [hR] at hfd
      clear hR
      have HQ' : Hid (Q = if R.isSome = true then 0 else 8) := by show _ = _; rw [← HQ.out]; unfold fcQ; rw [if_pos (HQ1.out.trans h1), if_pos (HQ2.out.trans h2), HRr.out]
      have HL' : Hid (L = R.getD []) := by show _ = _; rw [← HL.out]; unfold fcL; rw [if_pos (HQ1.out.trans h1), if_pos (HQ2.out.trans h2), HRr.out]
      clear HQ HL HQ1 HQ2 HRr
      obtain ⟨z0, z1, z2, z3, z4, z5, z6, z7, z8, z9⟩ := hC
      dsimp only at z0 z1 z2 z3 z4 z5 z6 z7 z8 z9
      go_wp2_with (go_at_call 27; refine hfd.mono ?_)
      rintro e W3 hP
      clear z0 z1 z2 z3 z4 z5 z6 z7 z8 z9 hfd
      cases R with
      | none =>
        obtain ⟨rfl, g3⟩ := hP
        have hO := hO.below g3
        have g := g.trans (g3.mono g.size)
        obtain ⟨o0, o1, of0, of1⟩ := hO
        clear g3
        go_wp2_with fail
        refine bodyPost_ret (v := .agg #[.int .i64 8, .slice none 0 0]) (by simp [results, Try.results7, go_sem, *]) rfl ?_
        rw [HQ'.out, HL'.out]
        exact fc_bad (below_set2 g hcb1 _ _)
      | some r =>
        obtain ⟨v, rfl, g3, ho⟩ := hP
        obtain ⟨va, vc, rfl⟩ : ∃ va vc, v = .slice va r.length vc := by
          obtain ⟨va, vc, e, _⟩ := SlIn.ofRow chE_len ho
          exact ⟨va, vc, e⟩
        have hO2 : cb + 1 < W2.heap.size := hO.lt
        have hO := hO.below g3
        have hgs := g.size
        have hlo : ∀ k, Value.ownBlock (.slice va r.length vc) = some k → cb + 1 < k := fun k e => by have h1 := (ho.lt k e).1; omega
        have HO : Hid (∀ W, Turned (cb + 1) (cb + 1 + 1) W3 W → W.ownsRow w.heap.size 28 10 (.slice va r.length vc) r.length (flat chE r)) := fun W ht => ownsRow_base (ho.kept (row := some (cb + 1)) ⟨ht.os, ht.tape, ht.output, ht.size, fun k hk hne => ht.block k hk (fun e => hne (by rw [show k = cb + 1 by omega]))⟩ (.inr fun e => by have := hlo _ e; omega)) hgs
        have g := g.trans (g3.mono g.size)
        obtain ⟨o0, o1, of0, of1⟩ := hO
        clear g3 ho hlo
        obtain ⟨rl, hrl⟩ : ∃ rl, r.length = rl := ⟨_, rfl⟩
        have HRL : Hid (r.length = rl) := hrl
        rw [hrl] at HO ⊢
        clear hrl
        go_wp2_with fail
        refine bodyPost_ret (v := .agg #[.int .i64 0, .slice va rl vc]) (by simp [results, Try.results7, go_sem, *]) rfl ?_
        rw [HQ'.out, HL'.out]
        refine ⟨_, rfl, below_set2 g hcb1 _ _, ?_⟩
        show World.ownsRow _ _ _ _ _ r.length (flat chE r)
        rw [HRL.out]
        exact HO.out _ (((Turned.refl _ _ W3).setCell (p := ⟨cb + 1, 0, none⟩) (Nat.le_refl _) (Nat.lt_succ_self _) _).setCell (p := ⟨cb + 1, 1, none⟩) (Nat.le_refl _) (Nat.lt_succ_self _) _)
    · have d2 : (q2 != 0) = true := by simpa using h2
      have HQ' : Hid (Q = q2) := by show _ = _; rw [← HQ.out]; unfold fcQ; rw [if_pos (HQ1.out.trans h1), if_neg (by rw [HQ2.out]; exact h2), HQ2.out]
      have HL' : Hid (L = []) := by show _ = _; rw [← HL.out]; unfold fcL; rw [if_pos (HQ1.out.trans h1), if_neg (by rw [HQ2.out]; exact h2)]
      clear HQ HL HQ1 HQ2 hC
      obtain ⟨o0, o1, of0, of1⟩ := hO
      go_wp2_with fail
      refine bodyPost_ret (v := .agg #[.int .i64 q2, .slice none 0 0]) (by simp [results, Try.results7, go_sem, *]) rfl ?_
      rw [HQ'.out, HL'.out]
      exact fc_bad (below_set2 g hcb1 _ _)
  · have d1 : (q1 != 0) = true := by simpa using h1
    have HQ' : Hid (Q = q1) := by show _ = _; rw [← HQ.out]; unfold fcQ; rw [if_neg (by rw [HQ1.out]; exact h1), HQ1.out]
    have HL' : Hid (L = []) := by show _ = _; rw [← HL.out]; unfold fcL; rw [if_neg (by rw [HQ1.out]; exact h1)]
    clear HQ HL HQ1 hC
    obtain ⟨o0, o1, of0, of1⟩ := hO
    go_wp2_with fail
    refine bodyPost_ret (v := .agg #[.int .i64 q1, .slice none 0 0]) (by simp [results, Try.results7, go_sem, *]) rfl ?_
    rw [HQ'.out, HL'.out]
    exact fc_bad (below_set2 g hcb1 _ _)

end Go.Proofs.Ytmbllmhpnopbdaa
