/-
  The program's FoldChange.
-/
import Derived.Test.YtmbllmhpnopbdaaFFFcl
import Derived.Test.YtmbllmhpnopbdaaFFFcg

namespace Go.Proofs.Ytmbllmhpnopbdaa
open Go.RowKit Go.Maps
set_option linter.unusedVariables false
set_option maxRecDepth 20000

/-- What stands in FoldChange. -/
structure FcS (w : World) (cb : Nat) (c : Chg) (V : World) : Prop where
  c : ChC V cb 0 c
  o : Rc2 V (cb + 1)
  g : Below w.heap.size w V
theorem Rc2.at {W W' : World} {b B : Nat} (h : Rc2 W b) (hb : Below B W W') (hl : b < B) : Rc2 W' b :=
  ⟨(hb.cell hl).trans h.c0, (hb.cell (p := ⟨b, 1, none⟩) hl).trans h.c1, (hb.frozen (p := ⟨b, 0, none⟩) hl).trans h.f0, (hb.frozen (p := ⟨b, 1, none⟩) hl).trans h.f1⟩
theorem FcS.up {w V V' : World} {cb : Nat} {c : Chg} (h : FcS w cb c V) (hb : Below V.heap.size V V') : FcS w cb c V' := ⟨h.c.below hb h.c.lt, h.o.below hb, h.g.trans (hb.mono h.g.size)⟩
theorem FcS.at {w V V' : World} {cb : Nat} {c : Chg} (h : FcS w cb c V) {B : Nat} (hb : Below B V V') (hl : cb + 1 < B) (hw : w.heap.size ≤ B) : FcS w cb c V' := ⟨h.c.below hb (by omega), h.o.at hb hl, h.g.trans (hb.mono hw)⟩
theorem alQ_kw {c : Chg} (h : alQ c = 0) : Kw (kT c) (kK c) := by
  obtain ⟨⟨h1, h2⟩, h3, h4⟩ := alQ_key h
  exact kw_small (by unfold small; omega) (by unfold small; omega)
/-- What becomes of right changes. -/
theorem fold_step {cs : List Chg} {c : Chg} (h1 : fdQ cs = 0) (h2 : alQ c = 0) : (stepF (fK cs) c = none → fcQ cs c = 8 ∧ fcL cs c = []) ∧ ∀ F, stepF (fK cs) c = some F → fcQ cs c = 0 ∧ (∀ (L : List Chg) (ys : List K3), Rise ys → ys.Nodup → (∀ x : K3, x ∈ ys ↔ (F x.x x.y).isSome = true) → L.map Option.some = (ys.map fun x => F x.x x.y) → L = fcL cs c) ∧ ∀ x y, (F x y).isSome = true → (x, y) ∈ (kT c, kK c) :: cs.map fun z => (kT z, kK z) := by
  obtain ⟨hl, ha, hp⟩ := fdQ_zero h1
  have hst := see_step h2 ha hp
  have hfd := fdR_see (c := c) hp
  have hq : fcQ cs c = if (seeR c cs).isSome = true then 0 else 8 := by unfold fcQ; rw [if_pos h1, if_pos h2, hfd]
  have hL : fcL cs c = (seeR c cs).getD [] := by unfold fcL; rw [if_pos h1, if_pos h2, hfd]
  rw [hq, hL, ← hst]
  cases hr : seeR c cs with
  | none => simp
  | some r =>
    refine ⟨fun h => by simp at h, fun F hF => ?_⟩
    have hF : fK r = F := by simpa using hF
    have hk := see_keys h2 ha hr
    refine ⟨rfl, fun L ys h1 h3 h4 h5 => ?_, fun x y hxy => ?_⟩
    · refine fold_unique (see_sorted h2 ha hp hr) (fun z hz => ?_) hF h1 h3 h4 h5
      rcases hk z hz with ⟨x, hx, e1, e2⟩ | ⟨e1, e2⟩
      · rw [e1, e2]; exact alQ_kw (ha x hx)
      · rw [e1, e2]; exact alQ_kw h2
    · subst hF
      obtain ⟨z, hz⟩ := Option.isSome_iff_exists.1 hxy
      obtain ⟨hz, e1, e2⟩ := fK_some hz
      rcases hk z hz with ⟨x', hx, e3, e4⟩ | ⟨e3, e4⟩
      · refine List.mem_cons_of_mem _ (List.mem_map.2 ⟨x', hx, ?_⟩)
        rw [← e3, ← e4, e1, e2]
      · rw [← e1, ← e2, e3, e4]; simp

set_option maxHeartbeats 8000000 in
theorem implFoldChange_any (a : Option Addr) (cs : List Chg) (n cc : Nat) (c0 : Bool) (ct ck cv : Int) (cst : ByteArray) (c5 : Bool) (dt dk dv : Int) (dst : ByteArray) (w : World) (hn : cs.length = n) (hm : n ≤ 9223372036854775807) (hs : ∀ x ∈ cs, x.b.s.size ≤ 1048576 ∧ x.a.s.size ≤ 1048576) (hb : cst.size ≤ 1048576) (ha : dst.size ≤ 1048576) (hr : Rs chE 10 w a cs) :
    Calls Try.prog 6 #[.slice a n cc, .agg #[.bool c0, .int .i64 ct, .int .i64 ck, .int .i64 cv, .string cst, .bool c5, .int .i64 dt, .int .i64 dk, .int .i64 dv, .string dst]] w fun e w' => FcPost (fcQ cs (⟨c0, ⟨ct, ck, cv, cst⟩, c5, ⟨dt, dk, dv, dst⟩⟩ : Chg)) (fcL cs (⟨c0, ⟨ct, ck, cv, cst⟩, c5, ⟨dt, dk, dv, dst⟩⟩ : Chg)) w e w' := by
  have HN : Hid (cs.length = n) := hn
  have HR : Hid (∀ W, Below w.heap.size w W → Rs chE 10 W a cs) := fun W hW => hr.below hW (Nat.le_refl _)
  have hml : (1048576 : Nat) ≤ maxLen := by decide
  have HSm : Hid (∀ x ∈ cs, x.b.s.size ≤ maxLen ∧ x.a.s.size ≤ maxLen) := fun x hx => ⟨Nat.le_trans (hs x hx).1 hml, Nat.le_trans (hs x hx).2 hml⟩
  have HS : Hid (∀ x ∈ cs, x.b.s.size ≤ 1048576 ∧ x.a.s.size ≤ 1048576) := hs
  have HFf : Hid (∀ V, Below w.heap.size w V → Calls Try.prog 19 #[.slice a n cc] V fun e w' => e = .returned (.int .i64 (fdQ cs)) ∧ Below V.heap.size V w') := fun V hV => foldedFault_any a cs n cc V HN.out hm HSm.out (HR.out V hV)
  have HAf : Hid (∀ V, Calls Try.prog 20 #[.agg #[.bool c0, .int .i64 ct, .int .i64 ck, .int .i64 cv, .string cst, .bool c5, .int .i64 dt, .int .i64 dk, .int .i64 dv, .string dst]] V fun e w' => e = .returned (.int .i64 (alQ (⟨c0, ⟨ct, ck, cv, cst⟩, c5, ⟨dt, dk, dv, dst⟩⟩ : Chg))) ∧ Below V.heap.size V w') := fun V => aloneFault_any c0 ct ck cv cst c5 dt dk dv dst V (Nat.le_trans hb hml) (Nat.le_trans ha hml)
  obtain ⟨Q, hQ⟩ : ∃ Q, fcQ cs (⟨c0, ⟨ct, ck, cv, cst⟩, c5, ⟨dt, dk, dv, dst⟩⟩ : Chg) = Q := ⟨_, rfl⟩
  obtain ⟨L, hL⟩ : ∃ L, fcL cs (⟨c0, ⟨ct, ck, cv, cst⟩, c5, ⟨dt, dk, dv, dst⟩⟩ : Chg) = L := ⟨_, rfl⟩
  have HQ : Hid (fcQ cs (⟨c0, ⟨ct, ck, cv, cst⟩, c5, ⟨dt, dk, dv, dst⟩⟩ : Chg) = Q) := hQ
  have HL : Hid (fcL cs (⟨c0, ⟨ct, ck, cv, cst⟩, c5, ⟨dt, dk, dv, dst⟩⟩ : Chg) = L) := hL
  rw [hQ, hL]
  clear hn hr hQ hL hs hml
  obtain ⟨q1, hq1⟩ : ∃ q1, fdQ cs = q1 := ⟨_, rfl⟩
  have HQ1 : Hid (fdQ cs = q1) := hq1
  rw [hq1] at HFf
  obtain ⟨q2, hq2⟩ : ∃ q2, alQ (⟨c0, ⟨ct, ck, cv, cst⟩, c5, ⟨dt, dk, dv, dst⟩⟩ : Chg) = q2 := ⟨_, rfl⟩
  have HQ2 : Hid (alQ (⟨c0, ⟨ct, ck, cv, cst⟩, c5, ⟨dt, dk, dv, dst⟩⟩ : Chg) = q2) := hq2
  rw [hq2] at HAf
  clear hq1 hq2
  go_enter Try.func6, Try.ntmps6
  go_upto_region 1 with (fail)
  generalize hX : World.alloc _ _ = X
  have hS : FcS w w.heap.size (⟨c0, ⟨ct, ck, cv, cst⟩, c5, ⟨dt, dk, dv, dst⟩⟩ : Chg) X := by
    rw [← hX]
    exact ⟨⟨by simp [go_sem], by simp [go_sem], by simp [go_sem], by simp [go_sem], by simp [go_sem], by simp [go_sem], by simp [go_sem], by simp [go_sem], by simp [go_sem], by simp [go_sem]⟩, ⟨by simp [go_sem], by simp [go_sem], by simp [go_sem], by simp [go_sem]⟩, by go_grown⟩
  clear hX
  obtain ⟨cb, hcb⟩ : ∃ cb, w.heap.size = cb := ⟨_, rfl⟩
  have hcb1 : w.heap.size ≤ cb + 1 := by omega
  rw [hcb] at hS
  simp only [hcb]
  clear hcb
  go_cut [5] from 8 (fun s wc => s = .int .i64 (orI q1 q2) ∧ FcS w cb (⟨c0, ⟨ct, ck, cv, cst⟩, c5, ⟨dt, dk, dv, dst⟩⟩ : Chg) wc)
  case first =>
    refine wp_region_held_drew (S := FcS w cb (⟨c0, ⟨ct, ck, cv, cst⟩, c5, ⟨dt, dk, dv, dst⟩⟩ : Chg)) (by kernel_rfl) (hS.up (Below.refl _ _).drew) (fun hHeld => ?_)
    clear hS
    generalize X.drew = D at hHeld ⊢
    refine wpAnyH_take (i := 0) (v := ?v1) rfl (by kernel_rfl) (by kernel_rfl) (by kernel_rfl) (fun _ _ _ h => h) (Or.inl ⟨by kernel_rfl, ?h1⟩) hHeld ?_
    case h1 => intro u hSw; clear hSw; go_simp; try with_reducible rfl
    try simp only [List.getElem_toArray]
    try simp only [List.getElem_cons_succ]
    try simp only [List.getElem_cons_zero]
    try simp only [Act.put]
    try simp only [List.setIfInBounds_toArray]
    try simp only [List.set]
    refine wpAnyH_take (i := 2) (v := ?v2) rfl (by kernel_rfl) (by kernel_rfl) (by kernel_rfl) (fun _ _ _ h => h) (Or.inl ⟨by kernel_rfl, ?h2⟩) hHeld ?_
    case h2 => intro u hSw; (obtain ⟨z0, z1, z2, z3, z4, z5, z6, z7, z8, z9⟩ := hSw.c); dsimp only at z0 z1 z2 z3 z4 z5 z6 z7 z8 z9; clear hSw; go_simp; try with_reducible rfl
    try simp only [List.getElem_toArray]
    try simp only [List.getElem_cons_succ]
    try simp only [List.getElem_cons_zero]
    try simp only [Act.put]
    try simp only [List.setIfInBounds_toArray]
    try simp only [List.set]
    refine wpAnyH_ready (rs := [1]) (by kernel_rfl) (by simp) ?_
    refine AllReadyH.cons rfl (fun K hK => ?_) AllReadyH.nil
    go_simp
    go_wp2_with (go_at_call 19; refine (HFf.out _ hHeld.g).mono ?_; rintro e W1 ⟨rfl, gg⟩)
    refine hK.out _ _ (hHeld.up gg) (fun hHeld => ?_)
    clear hK K
    clear gg
    try simp only [Act.put]
    try simp only [List.setIfInBounds_toArray]
    try simp only [List.set]
    refine wpAnyH_ready (rs := [3]) (by kernel_rfl) (by simp) ?_
    refine AllReadyH.cons rfl (fun K hK => ?_) AllReadyH.nil
    go_simp
    go_wp2_with (go_at_call 20; refine (HAf.out _).mono ?_; rintro e W3 ⟨rfl, gg⟩)
    refine hK.out _ _ (hHeld.up gg) (fun hHeld => ?_)
    clear hK K
    clear gg
    try simp only [Act.put]
    try simp only [List.setIfInBounds_toArray]
    try simp only [List.set]
    have gA : Below W3.heap.size W3 (W3.alloc (.cells #[.int .i64 q1, .int .i64 q2] 2)) := by go_grown
    have hc0 : (W3.alloc (.cells #[.int .i64 q1, .int .i64 q2] 2)).cell? ⟨W3.heap.size, 0, none⟩ = some (.int .i64 q1) := by simp [go_sem]
    have hc1 : (W3.alloc (.cells #[.int .i64 q1, .int .i64 q2] 2)).cell? ⟨W3.heap.size, 1, none⟩ = some (.int .i64 q2) := by simp [go_sem]
    refine wpAnyH_ready (rs := [4]) (by kernel_rfl) (by simp) ?_
    refine AllReadyH.cons rfl (fun K hK => ?_) AllReadyH.nil
    go_simp
    refine hK.out _ _ (hHeld.up gA) (fun hHeld => ?_)
    clear hK K gA
    generalize W3.alloc (.cells #[.int .i64 q1, .int .i64 q2] 2) = A at hHeld hc0 hc1 ⊢
    generalize W3.heap.size = ab at hc0 hc1 ⊢
    try simp only [Act.put]
    try simp only [List.setIfInBounds_toArray]
    try simp only [List.set]
    refine wpAnyH_ready (rs := [5]) (by kernel_rfl) (by simp) ?_
    refine AllReadyH.cons rfl (fun K hK => ?_) AllReadyH.nil
    go_simp
    go_wp2_with (go_at_call 18; refine (or64_any ab q1 q2 _ hc0 hc1).mono ?_; rintro e W5 ⟨rfl, hw5⟩; subst W5)
    refine hK.out _ _ (hHeld) (fun hHeld => ?_)
    clear hK K
    clear hc0 hc1
    try simp only [Act.put]
    try simp only [List.setIfInBounds_toArray]
    try simp only [List.set]
    refine wpAnyH_take (i := 6) (v := ?v3) rfl (by kernel_rfl) (by kernel_rfl) (by kernel_rfl) (fun _ _ _ h => h) (Or.inl ⟨by kernel_rfl, ?h3⟩) hHeld ?_
    case h3 => intro u hSw; clear hSw; go_simp; try with_reducible rfl
    try simp only [List.getElem_toArray]
    try simp only [List.getElem_cons_succ]
    try simp only [List.getElem_cons_zero]
    try simp only [Act.put]
    try simp only [List.setIfInBounds_toArray]
    try simp only [List.set]
    refine wpAnyH_done (by kernel_rfl) ?_ _
    go_wp2_with fail
    go_meet
    case rel => exact ⟨rfl, hHeld⟩
  case rest =>
  clear hS
  obtain ⟨rfl, hS⟩ := hcut
  obtain ⟨q, hq⟩ : ∃ q, orI q1 q2 = q := ⟨_, rfl⟩
  have HOr : Hid (orI q1 q2 = q) := hq
  rw [hq]
  clear hq
  by_cases hq0 : q = 0
  · have d0 : (q != 0) = false := by simpa using hq0
    have hz : q1 = 0 ∧ q2 = 0 := by
      have := HOr.out
      rw [hq0] at this
      unfold orI at this
      split at this
      · exact ⟨by assumption, this⟩
      · next h => exact absurd this h
    have h1 : fdQ cs = 0 := HQ1.out.trans hz.1
    have h2 : alQ (⟨c0, ⟨ct, ck, cv, cst⟩, c5, ⟨dt, dk, dv, dst⟩⟩ : Chg) = 0 := HQ2.out.trans hz.2
    obtain ⟨hl60, hall, hpw⟩ := fdQ_zero h1
    obtain ⟨HN0, HN1⟩ := fold_step h1 h2
    have HN0 : Hid _ := HN0
    have HN1 : Hid _ := HN1
    have hKc := alQ_kw h2
    have hfo := foldOf_any 0 a cs n cc wc HN.out (by rw [HN.out] at hl60; exact hl60) HS.out (fun x hx => alQ_kw (hall x hx)) hpw (HR.out wc hS.g)
    have h60n : n ≤ 60 := by rw [HN.out] at hl60; exact hl60
    have HKc : Hid (Kw (kT (⟨c0, ⟨ct, ck, cv, cst⟩, c5, ⟨dt, dk, dv, dst⟩⟩ : Chg)) (kK (⟨c0, ⟨ct, ck, cv, cst⟩, c5, ⟨dt, dk, dv, dst⟩⟩ : Chg))) := hKc
    have HLen : Hid (((kT (⟨c0, ⟨ct, ck, cv, cst⟩, c5, ⟨dt, dk, dv, dst⟩⟩ : Chg), kK (⟨c0, ⟨ct, ck, cv, cst⟩, c5, ⟨dt, dk, dv, dst⟩⟩ : Chg)) :: cs.map fun z => (kT z, kK z)).length ≤ 100000) := by
      show _ ≤ _
      rw [List.length_cons, List.length_map]
      omega
    clear h1 h2 hz hall hpw hKc HFf HAf HQ1 HQ2 HOr HSm HR hl60
    go_wp2_with (go_at_call 21; refine hfo.mono ?_)
    rintro e W4 ⟨fb, mb, sz, rfl, g4, hF, hM, hsz, hmb, hfb⟩
    have hwc := hS.o.lt
    have hwg := hS.g.size
    have hS := hS.up g4
    have h4 := g4.size
    clear hfo g4
    have hoc := ownChange_any c0 ct ck cv cst c5 dt dk dv dst W4 hb ha
    obtain ⟨z0, z1, z2, z3, z4, z5, z6, z7, z8, z9⟩ := hS.c
    dsimp only at z0 z1 z2 z3 z4 z5 z6 z7 z8 z9
    go_wp2_with fail
    refine hoc.mono ?_
    rintro e W5 ⟨rfl, g5⟩
    have hS := hS.up g5
    have hF := hF.below g5
    have hM := hM.below g5
    have h5 := g5.size
    clear z0 z1 z2 z3 z4 z5 z6 z7 z8 z9 hoc g5
    have htk := foldTake_any wc.heap.size fb mb sz 0 (fK cs) c0 ct ck cv cst c5 dt dk dv dst W5 hF hM (by omega) HKc.out hmb (by omega)
    generalize hst : stepF (fK cs) (⟨c0, ⟨ct, ck, cv, cst⟩, c5, ⟨dt, dk, dv, dst⟩⟩ : Chg) = R at htk HN0 HN1
    clear hst hF hM
    go_wp2_with fail
    refine htk.mono ?_
    rintro e W6 hP
    clear htk
    cases R with
    | none =>
      obtain ⟨rfl, g6⟩ := hP
      obtain ⟨e1, e2⟩ := HN0.out rfl
      have HE : Hid (Q = 8 ∧ L = []) := ⟨by rw [← HQ.out]; exact e1, by rw [← HL.out]; exact e2⟩
      have hS := hS.at g6 hwc hwg
      obtain ⟨o0, o1, of0, of1⟩ := hS.o
      have g := hS.g
      clear hS g6 e1 e2 HN0 HN1 HQ HL
      go_wp2_with fail
      refine bodyPost_ret (v := .agg #[.int .i64 8, .slice none 0 0]) (by simp [results, Try.results6, go_sem, *]) rfl ?_
      rw [HE.out.1, HE.out.2]
      exact fc_bad (below_set2 g hcb1 _ _)
    | some F =>
      obtain ⟨rfl, g6, hF, sz', hsz', hM⟩ := hP
      obtain ⟨e1, e2, e3⟩ := HN1.out F rfl
      have HE : Hid (Q = 0) := by show _ = _; rw [← HQ.out]; exact e1
      have HU : Hid (∀ (L' : List Chg) (ys : List K3), Rise ys → ys.Nodup → (∀ x : K3, x ∈ ys ↔ (F x.x x.y).isSome = true) → L'.map Option.some = (ys.map fun x => F x.x x.y) → L' = L) := fun L' ys a1 a2 a3 a4 => by rw [← HL.out]; exact e2 L' ys a1 a2 a3 a4
      have hS := hS.at g6 hwc hwg
      have h6 := g6.size
      have hch := foldChanges_any fb mb sz' 0 F _ W6 hF hM (by omega) HLen.out e3
      clear g6 e1 e2 e3 HN0 HN1 HQ HL hF hM
      go_wp2_with fail
      refine hch.mono ?_
      rintro e W7 ⟨v, L', ys, rfl, g7, ho, a1, a2, a3, a4⟩
      have hLe := HU.out L' ys a1 a2 a3 a4
      subst hLe
      obtain ⟨va, vc, rfl⟩ : ∃ va vc, v = .slice va L'.length vc := by
        obtain ⟨va, vc, e, _⟩ := SlIn.ofRow chE_len ho
        exact ⟨va, vc, e⟩
      have hgs := hS.g.size
      have hol : cb + 1 < W6.heap.size := hS.o.lt
      have hS := hS.up g7
      have hlo : ∀ k, Value.ownBlock (.slice va L'.length vc) = some k → cb + 1 < k := fun k e => by have h1 := (ho.lt k e).1; omega
      have HO : Hid (∀ W, Turned (cb + 1) (cb + 1 + 1) W7 W → W.ownsRow w.heap.size 28 10 (.slice va L'.length vc) L'.length (flat chE L')) := fun W ht => ownsRow_base (ho.kept (row := some (cb + 1)) ⟨ht.os, ht.tape, ht.output, ht.size, fun k hk hne => ht.block k hk (fun e => hne (by rw [show k = cb + 1 by omega]))⟩ (.inr fun e => by have := hlo _ e; omega)) hgs
      have g := hS.g
      obtain ⟨o0, o1, of0, of1⟩ := hS.o
      clear g7 ho hlo hS a1 a2 a3 a4 HU hch
      obtain ⟨rl, hrl⟩ : ∃ rl, L'.length = rl := ⟨_, rfl⟩
      have HRL : Hid (L'.length = rl) := hrl
      rw [hrl] at HO ⊢
      clear hrl
      go_wp2_with fail
      refine bodyPost_ret (v := .agg #[.int .i64 0, .slice va rl vc]) (by simp [results, Try.results6, go_sem, *]) rfl ?_
      rw [HE.out]
      refine ⟨_, rfl, below_set2 g hcb1 _ _, ?_⟩
      rw [HRL.out]
      exact HO.out _ (((Turned.refl _ _ W7).setCell (p := ⟨cb + 1, 0, none⟩) (Nat.le_refl _) (Nat.lt_succ_self _) _).setCell (p := ⟨cb + 1, 1, none⟩) (Nat.le_refl _) (Nat.lt_succ_self _) _)
  · have d0 : (q != 0) = true := by simpa using hq0
    have HE : Hid (Q = q ∧ L = []) := by
      have ho := HOr.out
      have e1 := HQ1.out
      have e2 := HQ2.out
      unfold orI at ho
      refine ⟨?_, ?_⟩
      · rw [← HQ.out]
        unfold fcQ
        split at ho
        · next h => rw [if_pos (e1.trans h), if_neg (by rw [e2, ho]; exact hq0), e2, ho]
        · next h => rw [if_neg (by rw [e1]; exact h), e1, ho]
      · rw [← HL.out]
        unfold fcL
        split at ho
        · next h => rw [if_pos (e1.trans h), if_neg (by rw [e2, ho]; exact hq0)]
        · next h => rw [if_neg (by rw [e1]; exact h)]
    obtain ⟨o0, o1, of0, of1⟩ := hS.o
    have g := hS.g
    clear hS HQ HL HQ1 HQ2 HOr HFf HAf HR HS HSm
    go_wp2_with fail
    refine bodyPost_ret (v := .agg #[.int .i64 q, .slice none 0 0]) (by simp [results, Try.results6, go_sem, *]) rfl ?_
    rw [HE.out.1, HE.out.2]
    exact fc_bad (below_set2 g hcb1 _ _)

end Go.Proofs.Ytmbllmhpnopbdaa
