/-
  The law FnExactApplyRecord answers true.
-/
import Derived.Test.YteebbaleejbodaaARMar
import Derived.Test.YteebbaleejbodaaARSzg
import Derived.Test.YteebbaleejbodaaAROpg

namespace Go.Proofs.Yteebbaleejbodaa
open Go.RowKit
set_option linter.unusedVariables false
set_option maxRecDepth 20000

/-- Runs read from a block of their own. -/
def RdR (W : World) (rb rn : Nat) (P : Nat → Int) (Z : Nat → List Int) : Prop := ∃ A C, RunsRead W (some ⟨rb, 0, none⟩) rn P A C Z
theorem RdR.up {W W' : World} {rb rn : Nat} {P : Nat → Int} {Z : Nat → List Int} (h : RdR W rb rn P Z) (hb : Below W.heap.size W W') : RdR W' rb rn P Z := by
  obtain ⟨A, C, h⟩ := h
  exact ⟨A, C, h.below hb (Nat.le_refl _)⟩
/-- What is made of pages stays within bounds. -/
theorem ar_big (ps : List (List Int)) (kd tx pg : Int) (m : Nat) (P : Nat → Int) (Z : Nat → List Int) : bigQ (arP ps kd tx pg m P Z) ≤ 13000000 := by
  have h0 : bigQ [] ≤ 13000000 := bigQ_le (by simp) (by simp)
  unfold arP
  split
  · rename_i hc
    unfold arC at hc
    split at hc
    · cases hc
    rename_i h12
    split at hc
    case isFalse => cases hc
    rename_i hl
    have h64 : ∀ zs ∈ ps, zs.length = 64 := fun zs hz => by
      have := List.all_eq_true.1 hl zs hz
      simpa using this
    split at hc
    case isFalse => rename_i h1; exact absurd hc h1
    rename_i hq
    split
    · rename_i hk
      obtain ⟨_, hp, hr⟩ := rec_runs hq hk
      have hlen : (pgOf ps pg.toNat).length = 64 := by
        unfold pgOf
        by_cases h1 : pg.toNat < ps.length
        · rw [List.getD_eq_getElem?_getD, List.getElem?_eq_getElem h1]
          exact h64 _ (List.getElem_mem h1)
        · rw [List.getD_eq_getElem?_getD, List.getElem?_eq_none (by omega)]
          rfl
      have ha := apP_length hlen hr m (Nat.le_refl _)
      refine bigQ_le (fun zs hz => ?_) ?_
      · unfold wpL at hz
        split at hz
        · rcases List.mem_append.1 hz with h | h
          · exact Nat.le_of_eq (h64 zs h)
          · rw [List.mem_singleton.1 h]; exact Nat.le_of_eq ha
        · rcases List.mem_or_eq_of_mem_set hz with h | h
          · exact Nat.le_of_eq (h64 zs h)
          · rw [h]; exact Nat.le_of_eq ha
      · unfold wpL
        split
        · rw [List.length_append]; simp; omega
        · rw [List.length_set]; omega
    · exact bigQ_le (fun zs hz => Nat.le_of_eq (h64 zs hz)) (by omega)
  · exact h0
theorem PartP.readsM {w : World} {g n : Nat} {ps : List (List Int)} {F : Nat → Nat} (h : PartP w g n n ps F) (hn : ps.length = n) : PgRdN w (some ⟨g, 0, none⟩) ps := by
  refine .inr ⟨g, 0, rfl, fun i zs hz => ?_⟩
  have hi : i < n := by rw [← hn]; exact (List.getElem?_eq_some_iff.1 hz).1
  obtain ⟨h1, h2⟩ := h.c i zs hi hz
  exact ⟨_, _, by rw [Nat.zero_add]; exact h1, Nat.le_refl _, h2.reads⟩
theorem took_ge1 {Z : Nat → List Int} {n i : Nat} (h : i < n) : (Z i).length ≤ took Z n := by
  induction n with
  | zero => omega
  | succ n ih =>
    simp only [took]
    by_cases e : i = n
    · subst e; omega
    · have := ih (by omega); omega

/-- What a drawn region of the law keeps. -/
structure LwS (D : World) (b : Nat) (kd tx pg : Int) (ra : Option Addr) (rn rc : Nat) (V : World) : Prop where
  c : RcAt V b kd tx pg ra rn rc
  g : Below D.heap.size D V
section
variable {D : World} {b : Nat} {kd tx pg : Int} {ra : Option Addr} {rn rc : Nat} {V V' : World}
theorem LwS.up (h : LwS D b kd tx pg ra rn rc V) (hb : Below V.heap.size V V') : LwS D b kd tx pg ra rn rc V' := ⟨h.c.up hb, h.g.trans (hb.mono h.g.size)⟩
theorem LwS.turned (h : LwS D b kd tx pg ra rn rc V) {ab : Nat} (ht : Turned ab (ab + 1) V V') (hd : D.heap.size ≤ ab) (hDV : D.heap.size ≤ V.heap.size) (hb : b < D.heap.size) : LwS D b kd tx pg ra rn rc V' := by
  have hg := ht.toBelow (B := D.heap.size) hDV hd
  exact ⟨h.c.at hg hb, h.g.trans hg⟩
end
/-- What the region that compares the record keeps. -/
structure LwT (D : World) (b : Nat) (kd tx pg : Int) (ra : Option Addr) (rn rc : Nat) (b8 rb : Nat) (V : World) : Prop where
  c : RcAt V b kd tx pg ra rn rc
  x : RcAt V b8 kd tx pg (some ⟨rb, 0, none⟩) rn rn
  g : Below D.heap.size D V
theorem LwT.up {D : World} {b : Nat} {kd tx pg : Int} {ra : Option Addr} {rn rc : Nat} {b8 rb : Nat} {V V' : World} (h : LwT D b kd tx pg ra rn rc b8 rb V) (hb : Below V.heap.size V V') : LwT D b kd tx pg ra rn rc b8 rb V' := ⟨h.c.up hb, h.x.up hb, h.g.trans (hb.mono h.g.size)⟩

set_option maxHeartbeats 8000000 in
theorem lawApplyRecord_any (a : Option Addr) (n c : Nat) (ps : List (List Int)) (kd tx pg : Int) (ra : Option Addr) (rn rc : Nat) (P : Nat → Int) (A : Nat → Option Addr) (C : Nat → Nat) (Z : Nat → List Int) (w : World) (h : IsPages w a n ps) (hR : IsRuns w ra rn P A C Z) :
    Calls Try.prog 6 #[.slice a n c, .agg #[.int .i64 kd, .int .i64 tx, .int .i64 pg, .slice ra rn rc]] w fun e w' => e = .returned (.bool true) ∧ Below w.heap.size w w' := by
  have hm := h.ln
  have HI : Hid (IsPages w a n ps) := h
  have HJ : Hid (IsRuns w ra rn P A C Z) := hR
  clear h hR
  go_enter Try.func6, Try.ntmps6
  go_upto_region 2 with (fail)
  generalize hY : World.alloc _ _ = Y
  have gY : Below w.heap.size w Y := by rw [← hY]; go_grown
  have hYs : w.heap.size < Y.heap.size := by rw [← hY]; simp
  have hcx : RcAt Y w.heap.size kd tx pg ra rn rc := by rw [← hY]; exact ⟨by simp [go_sem], by simp [go_sem], by simp [go_sem], by simp [go_sem]⟩
  clear hY
  obtain ⟨bx, hbx⟩ : ∃ bx, w.heap.size = bx := ⟨_, rfl⟩
  rw [hbx] at hcx hYs
  simp only [hbx]
  have hbY : bx < Y.heap.size := hYs
  clear hbx hYs
  have HCx : Hid (∀ V, Below Y.heap.size Y V → RcAt V bx kd tx pg ra rn rc) := fun V hV => hcx.up hV
  have HRd : Hid (∀ V, Below Y.heap.size Y V → PgRead V a ps) := fun V hV => HI.out.rd.below (gY.trans (hV.mono gY.size)) (Nat.le_refl _)
  have HRr : Hid (∀ V, Below Y.heap.size Y V → RunsRead V ra rn P A C Z) := fun V hV => HJ.out.rd.below (gY.trans (hV.mono gY.size)) (Nat.le_refl _)
  have hIY : IsPages Y a n ps := ⟨HRd.out _ (Below.refl _ _), HI.out.eq, HI.out.ln, HI.out.sz⟩
  go_wp2_with fail
  refine (szByteSS_any a ps n c _ 1048576 hIY (by omega) (by omega)).mono ?_
  rintro e w1 ⟨⟨r, rfl, hr1, hl⟩, hw1⟩
  subst w1
  clear hIY
  by_cases h0 : r < 0
  · go_wp2_with fail
    go_ret
    exact ⟨rfl, gY⟩
  obtain ⟨hn, hpo⟩ := hl (by omega)
  have HP : Hid (PgOk ps) := hpo
  have HN : Hid (ps.length = n) := HI.out.eq
  have hrr : ¬ (r < 0) := h0
  have hsz := szRecord_gen kd tx pg ra rn rc P A C Z r Y (by omega) hr1 HJ.out.ln HJ.out.zl (HRr.out _ (Below.refl _ _))
  obtain ⟨zzz0, zzz1, zzz2, zzz3⟩ := HCx.out _ (Below.refl _ Y)
  clear h0 hl hpo
  go_wp2_with fail
  refine hsz.mono ?_
  rintro e w2 ⟨⟨r2, rfl, h2⟩, gB⟩
  clear hsz zzz0 zzz1 zzz2 zzz3
  rcases h2 with rfl | ⟨hr20, hr2⟩
  · go_wp2_with fail
    go_ret
    exact ⟨rfl, gY.trans (gB.mono gY.size)⟩
  have hmr : rn + took Z rn ≤ 1048576 := by omega
  have hrm : rn ≤ 1048576 := by omega
  have HZs : Hid (∀ i, i < rn → (Z i).length ≤ 1048576) := fun i hi => by have := took_ge1 (Z := Z) hi; omega
  have hr2n : ¬ (r2 < 0) := by omega
  clear hr2 hr20
  have HTo : Hid (∀ V, Below Y.heap.size Y V → Calls Try.prog 24 #[.slice a n c] V fun e w' => e = .returned (.slice (some ⟨V.heap.size, 0, none⟩) n n) ∧ Below V.heap.size V w' ∧ PgRdN w' (some ⟨V.heap.size, 0, none⟩) ps) := fun V hV => by
    refine (toByteSS_any a ps n c V HN.out hn HP.out (HRd.out V hV)).mono ?_
    rintro e w' ⟨rfl, g2, hl2, F2, o2⟩
    exact ⟨rfl, g2, o2.readsM HN.out⟩
  have HRo : Hid (∀ V, Below Y.heap.size Y V → Calls Try.prog 33 #[.agg #[.int .i64 kd, .int .i64 tx, .int .i64 pg, .slice ra rn rc]] V fun e w' => ∃ rb, e = .returned (.agg #[.int .i64 kd, .int .i64 tx, .int .i64 pg, .slice (some ⟨rb, 0, none⟩) rn rn]) ∧ Below V.heap.size V w' ∧ RdR w' rb rn P Z) := fun V hV => by
    refine (toRecord_any kd tx pg ra rn rc P A C Z V hmr (HRr.out V hV)).mono ?_
    rintro e w' ⟨rb, A', F', rfl, g2, o2⟩
    exact ⟨rb, rfl, g2, A', _, o2.reads⟩
  have hb2 := ar_big ps kd tx pg rn P Z
  have hb1 : bigE [] ≤ 2000000 := bigE_le (by simp) (by simp)
  have HSpec0 : Hid (∀ (a : Option Addr) (rb : Nat) (W : World), PgRdN W a ps → RdR W rb rn P Z → Calls Try.prog 32 #[.slice a n n, .agg #[.int .i64 kd, .int .i64 tx, .int .i64 pg, .slice (some ⟨rb, 0, none⟩) rn rn]] W fun e w' => AePost (arC ps kd tx pg rn P Z) [] (arP ps kd tx pg rn P Z) W e w') := fun a rb W h1 h2 => by
    obtain ⟨A', C', h2⟩ := h2
    exact specApplyRecord_any a ps n n kd tx pg _ rn rn P A' C' Z W HN.out hn HP.out h1 hrm HZs.out h2
  have HImpl0 : Hid (∀ (a : Option Addr) (rb : Nat) (W : World), PgRdN W a ps → RdR W rb rn P Z → Calls Try.prog 34 #[.slice a n n, .agg #[.int .i64 kd, .int .i64 tx, .int .i64 pg, .slice (some ⟨rb, 0, none⟩) rn rn]] W fun e w' => AePost (arC ps kd tx pg rn P Z) [] (arP ps kd tx pg rn P Z) W e w') := fun a rb W h1 h2 => by
    obtain ⟨A', C', h2⟩ := h2
    exact implApplyRecord_any a ps n n kd tx pg _ rn rn P A' C' Z W HN.out hn HP.out h1 hrm HZs.out h2
  generalize arC ps kd tx pg rn P Z = q at HSpec0 HImpl0
  generalize ([] : List (Int × List Int)) = es at HSpec0 HImpl0 hb1
  generalize arP ps kd tx pg rn P Z = qs at HSpec0 HImpl0 hb2
  obtain ⟨m, hm0⟩ : ∃ m, m = es.length := ⟨_, rfl⟩
  have HM : Hid (es.length = m) := hm0.symm
  obtain ⟨m2, hm2⟩ : ∃ m2, m2 = qs.length := ⟨_, rfl⟩
  have HM2 : Hid (qs.length = m2) := hm2.symm
  have HB : Hid (bigE es ≤ 2000000 ∧ bigQ qs ≤ 13000000) := ⟨hb1, hb2⟩
  have HSpec : Hid (∀ (a : Option Addr) (rb : Nat) (W : World), PgRdN W a ps → RdR W rb rn P Z → Calls Try.prog 32 #[.slice a n n, .agg #[.int .i64 kd, .int .i64 tx, .int .i64 pg, .slice (some ⟨rb, 0, none⟩) rn rn]] W fun e w' => ∃ p3 c3 r3 d3, e = .returned (.agg #[.int .i64 q, .slice p3 m c3, .slice r3 m2 d3]) ∧ Below W.heap.size W w' ∧ EdH W.heap.size w'.heap.size w' p3 es r3 qs) := fun a rb W h1 h2 => (HSpec0.out a rb W h1 h2).mono fun e w' hA => by
    obtain ⟨p3, c3, r3, d3, h3⟩ := hA.form
    rw [HM.out, HM2.out] at h3
    exact ⟨p3, c3, r3, d3, h3⟩
  have HImpl : Hid (∀ (a : Option Addr) (rb : Nat) (W : World), PgRdN W a ps → RdR W rb rn P Z → Calls Try.prog 34 #[.slice a n n, .agg #[.int .i64 kd, .int .i64 tx, .int .i64 pg, .slice (some ⟨rb, 0, none⟩) rn rn]] W fun e w' => ∃ p3 c3 r3 d3, e = .returned (.agg #[.int .i64 q, .slice p3 m c3, .slice r3 m2 d3]) ∧ Below W.heap.size W w' ∧ EdH W.heap.size w'.heap.size w' p3 es r3 qs) := fun a rb W h1 h2 => (HImpl0.out a rb W h1 h2).mono fun e w' hA => by
    obtain ⟨p3, c3, r3, d3, h3⟩ := hA.form
    rw [HM.out, HM2.out] at h3
    exact ⟨p3, c3, r3, d3, h3⟩
  clear HI HJ hm0 hm2 hb1 hb2 HSpec0 HImpl0 hcx
  go_upto_region 8 with (fail)
  have hbB : bx < w2.heap.size := Nat.lt_of_lt_of_le hbY gB.size
  go_cut [6] from 14 (fun s6 wc => ∃ (ab : Nat) (p3 : Option Addr) (c3 : Nat) (r3 : Option Addr) (d3 lo hi : Nat), s6 = .pointer (some ⟨ab, 0, none⟩) ∧ Below w2.heap.size w2 wc ∧ RsE wc ab q p3 m c3 r3 m2 d3 ∧ EdH lo hi wc p3 es r3 qs ∧ w2.heap.size ≤ lo ∧ hi ≤ wc.heap.size ∧ w2.heap.size ≤ ab)
  case first =>
    have H : LwS w2 bx kd tx pg ra rn rc w2.drew := ⟨HCx.out _ (gB.trans ((Below.refl _ w2).drew.mono gB.size)), (Below.refl _ w2).drew⟩
    refine wp_region_held_drew (S := LwS w2 bx kd tx pg ra rn rc) (by kernel_rfl) H (fun hHeld => ?_)
    have hDV : w2.heap.size ≤ w2.drew.heap.size := Nat.le_refl _
    generalize w2.drew = D0 at hHeld hDV ⊢
    clear H
    have HT : Hid (∀ V, Below w2.heap.size w2 V → Calls Try.prog 24 #[.slice a n c] V fun e w' => e = .returned (.slice (some ⟨V.heap.size, 0, none⟩) n n) ∧ Below V.heap.size V w' ∧ PgRdN w' (some ⟨V.heap.size, 0, none⟩) ps) := fun V hV => HTo.out V (gB.trans (hV.mono gB.size))
    have HTr : Hid (∀ V, Below w2.heap.size w2 V → Calls Try.prog 33 #[.agg #[.int .i64 kd, .int .i64 tx, .int .i64 pg, .slice ra rn rc]] V fun e w' => ∃ rb, e = .returned (.agg #[.int .i64 kd, .int .i64 tx, .int .i64 pg, .slice (some ⟨rb, 0, none⟩) rn rn]) ∧ Below V.heap.size V w' ∧ RdR w' rb rn P Z) := fun V hV => HRo.out V (gB.trans (hV.mono gB.size))
    clear gB
    refine wpAnyH_take (i := 0) (v := ?v1) rfl (by kernel_rfl) (by kernel_rfl) (by kernel_rfl) (fun _ _ _ h => h) (Or.inl ⟨by kernel_rfl, ?h1⟩) hHeld ?_
    case h1 => intro u hSw; clear hSw; go_simp; try with_reducible rfl
    try simp only [List.getElem_toArray]
    try simp only [List.getElem_cons_succ]
    try simp only [List.getElem_cons_zero]
    try simp only [Act.put]
    try simp only [List.setIfInBounds_toArray]
    try simp only [List.set]
    refine wpAnyH_take (i := 2) (v := ?v2) rfl (by kernel_rfl) (by kernel_rfl) (by kernel_rfl) (fun _ _ _ h => h) (Or.inl ⟨by kernel_rfl, ?h2⟩) hHeld ?_
    case h2 => intro u hSw; (obtain ⟨z0, z1, z2, z3⟩ := hSw.c); clear hSw; go_simp; try with_reducible rfl
    try simp only [List.getElem_toArray]
    try simp only [List.getElem_cons_succ]
    try simp only [List.getElem_cons_zero]
    try simp only [Act.put]
    try simp only [List.setIfInBounds_toArray]
    try simp only [List.set]
    refine wpAnyH_ready (rs := [1, 5]) (by kernel_rfl) (by simp) ?_
    refine AllReadyH.cons rfl (fun K hK => ?_) (AllReadyH.cons rfl (fun K hK => ?_) AllReadyH.nil)
    · go_simp
      go_wp2_with (go_at_call 24; refine (HT.out _ hHeld.g).mono ?_; rintro e U1 ⟨rfl, gg, n1⟩)
      refine hK.out _ _ (hHeld.up gg) (fun hHeld => ?_)
      clear hK K
      have hDV' : w2.heap.size ≤ U1.heap.size := Nat.le_trans hDV gg.size
      clear gg hDV
      have hDV := hDV'
      clear hDV'
      generalize D0.heap.size = lb at n1 ⊢
      try simp only [Act.put]
      try simp only [List.setIfInBounds_toArray]
      try simp only [List.set]
      refine wpAnyH_ready (rs := [3, 5]) (by kernel_rfl) (by simp) ?_
      refine AllReadyH.cons rfl (fun K hK => ?_) (AllReadyH.cons rfl (fun K hK => ?_) AllReadyH.nil)
      · go_simp
        go_wp2_with (go_at_call 33; refine (HTr.out _ hHeld.g).mono ?_; rintro e U2 ⟨rb, rfl, gg, rr⟩)
        refine hK.out _ _ (hHeld.up gg) (fun hHeld => ?_)
        clear hK K
        have n1 := n1.below gg (Nat.le_refl _)
        have hDV' : w2.heap.size ≤ U2.heap.size := Nat.le_trans hDV gg.size
        clear gg hDV
        have hDV := hDV'
        clear hDV'
        try simp only [Act.put]
        try simp only [List.setIfInBounds_toArray]
        try simp only [List.set]
        refine wpAnyH_ready (rs := [4, 5]) (by kernel_rfl) (by simp) ?_
        refine AllReadyH.cons rfl (fun K hK => ?_) (AllReadyH.cons rfl (fun K hK => ?_) AllReadyH.nil)
        · go_simp
          go_wp2_with (go_at_call 32; refine (HSpec.out _ _ _ n1 rr).mono ?_; rintro e U3 ⟨p3, c3, r3, d3, rfl, gg, y3⟩)
          refine hK.out _ _ (hHeld.up gg) (fun hHeld => ?_)
          clear hK K
          have hDV' : w2.heap.size ≤ U3.heap.size := Nat.le_trans hDV gg.size
          have hlo : w2.heap.size ≤ U2.heap.size := hDV
          have hle : U3.heap.size ≤ U3.heap.size := Nat.le_refl _
          obtain ⟨lo, hlo'⟩ : ∃ lo, U2.heap.size = lo := ⟨_, rfl⟩
          obtain ⟨hi, hhi'⟩ : ∃ hi, U3.heap.size = hi := ⟨_, rfl⟩
          have hle : hi ≤ U3.heap.size := Nat.le_of_eq hhi'.symm
          rw [hlo', hhi'] at y3
          rw [hlo'] at hlo
          clear hlo' hhi'
          clear gg hDV
          have hDV := hDV'
          clear hDV'
          try simp only [Act.put]
          try simp only [List.setIfInBounds_toArray]
          try simp only [List.set]
          refine wpAnyH_ready (rs := [5]) (by kernel_rfl) (by simp) ?_
          refine AllReadyH.cons rfl (fun K hK => ?_) AllReadyH.nil
          have gg : Below U3.heap.size U3 (U3.alloc (.cells #[.int .i64 0, .slice none 0 0, .slice none 0 0] 62)) := by go_grown
          have hab : w2.heap.size ≤ U3.heap.size := hDV
          have hB : Rc3 (U3.alloc (.cells #[.int .i64 0, .slice none 0 0, .slice none 0 0] 62)) U3.heap.size := ⟨by simp [go_sem], by simp [go_sem], by simp [go_sem], by simp [go_sem], by simp [go_sem], by simp [go_sem]⟩
          have hpos : hi ≤ U3.heap.size ∨ U3.heap.size + 1 ≤ lo := .inl hle
          have hle : hi ≤ (U3.alloc (.cells #[.int .i64 0, .slice none 0 0, .slice none 0 0] 62)).heap.size := Nat.le_trans hle gg.size
          have hDV : w2.heap.size ≤ (U3.alloc (.cells #[.int .i64 0, .slice none 0 0, .slice none 0 0] 62)).heap.size := Nat.le_trans hDV gg.size
          go_simp
          refine hK.out _ _ (hHeld.up gg) (fun hHeld => ?_)
          clear hK K
          have y3 := y3.below gg
          clear gg
          generalize U3.alloc (.cells #[.int .i64 0, .slice none 0 0, .slice none 0 0] 62) = U4 at hHeld hB hDV y3 hle ⊢
          generalize U3.heap.size = ab at hB hab hpos ⊢
          try simp only [Act.put]
          try simp only [List.setIfInBounds_toArray]
          try simp only [List.set]
          have T : Turned ab (ab + 1) U4 (((U4.setCell ⟨ab, 0, none⟩ (.int .i64 q)).setCell ⟨ab, 1, none⟩ (.slice p3 m c3)).setCell ⟨ab, 2, none⟩ (.slice r3 m2 d3)) := (((Turned.refl _ _ U4).setCell (p := ⟨ab, 0, none⟩) (Nat.le_refl _) (Nat.lt_succ_self _) _).setCell (p := ⟨ab, 1, none⟩) (Nat.le_refl _) (Nat.lt_succ_self _) _).setCell (p := ⟨ab, 2, none⟩) (Nat.le_refl _) (Nat.lt_succ_self _) _
          have hAb : ab < U4.heap.size := World.block_lt_of_cell? U4 _ hB.c0
          obtain ⟨a0, a1, a2, f0, f1, f2⟩ := hB
          refine wpAnyH_ready (rs := [6]) (by kernel_rfl) (by simp) ?_
          refine AllReadyH.cons rfl (fun K hK => ?_) AllReadyH.nil
          go_simp
          refine hK.out _ _ (hHeld.turned T hab hDV hbB) (fun hHeld => ?_)
          clear hK K
          try simp only [Act.put]
          try simp only [List.setIfInBounds_toArray]
          try simp only [List.set]
          refine wpAnyH_done (by kernel_rfl) ?_ _
          have b3 : RsE (((U4.setCell ⟨ab, 0, none⟩ (.int .i64 q)).setCell ⟨ab, 1, none⟩ (.slice p3 m c3)).setCell ⟨ab, 2, none⟩ (.slice r3 m2 d3)) ab q p3 m c3 r3 m2 d3 := ⟨by simp [go_sem, a0], by simp [go_sem, a1], by simp [go_sem, a2]⟩
          have y3 := y3.turned T hpos
          have hsz : hi ≤ (((U4.setCell ⟨ab, 0, none⟩ (.int .i64 q)).setCell ⟨ab, 1, none⟩ (.slice p3 m c3)).setCell ⟨ab, 2, none⟩ (.slice r3 m2 d3)).heap.size := by rw [World.size_setCell, World.size_setCell, World.size_setCell]; exact hle
          go_wp2_with fail
          go_meet
          case rel => exact ⟨ab, p3, c3, r3, d3, lo, hi, rfl, hHeld.g, b3, y3, hlo, hsz, hab⟩
        · have gg : Below U2.heap.size U2 (U2.alloc (.cells #[.int .i64 0, .slice none 0 0, .slice none 0 0] 62)) := by go_grown
          have hab : w2.heap.size ≤ U2.heap.size := hDV
          have hB : Rc3 (U2.alloc (.cells #[.int .i64 0, .slice none 0 0, .slice none 0 0] 62)) U2.heap.size := ⟨by simp [go_sem], by simp [go_sem], by simp [go_sem], by simp [go_sem], by simp [go_sem], by simp [go_sem]⟩
          have hDV : w2.heap.size ≤ (U2.alloc (.cells #[.int .i64 0, .slice none 0 0, .slice none 0 0] 62)).heap.size := Nat.le_trans hDV gg.size
          go_simp
          refine hK.out _ _ (hHeld.up gg) (fun hHeld => ?_)
          clear hK K
          have n1 := n1.below gg (Nat.le_refl _)
          have rr := rr.up gg
          clear gg
          generalize U2.alloc (.cells #[.int .i64 0, .slice none 0 0, .slice none 0 0] 62) = U5 at hHeld hB hDV n1 rr ⊢
          generalize U2.heap.size = ab at hB hab  ⊢
          try simp only [Act.put]
          try simp only [List.setIfInBounds_toArray]
          try simp only [List.set]
          refine wpAnyH_ready (rs := [4]) (by kernel_rfl) (by simp) ?_
          refine AllReadyH.cons rfl (fun K hK => ?_) AllReadyH.nil
          have hAb : ab < U5.heap.size := World.block_lt_of_cell? U5 _ hB.c0
          go_simp
          go_wp2_with (go_at_call 32; refine (HSpec.out _ _ _ n1 rr).mono ?_; rintro e U6 ⟨p3, c3, r3, d3, rfl, gg, y3⟩)
          refine hK.out _ _ (hHeld.up gg) (fun hHeld => ?_)
          clear hK K
          have hB := hB.at gg (World.block_lt_of_cell? U5 _ hB.c0)
          have hDV' : w2.heap.size ≤ U6.heap.size := Nat.le_trans hDV gg.size
          have hlo : w2.heap.size ≤ U5.heap.size := hDV
          have hle : U6.heap.size ≤ U6.heap.size := Nat.le_refl _
          have hpos : U6.heap.size ≤ ab ∨ ab + 1 ≤ U5.heap.size := .inr hAb
          obtain ⟨lo, hlo'⟩ : ∃ lo, U5.heap.size = lo := ⟨_, rfl⟩
          obtain ⟨hi, hhi'⟩ : ∃ hi, U6.heap.size = hi := ⟨_, rfl⟩
          have hle : hi ≤ U6.heap.size := Nat.le_of_eq hhi'.symm
          rw [hlo', hhi'] at y3
          rw [hlo'] at hlo
          rw [hlo', hhi'] at hpos
          clear hlo' hhi'
          clear gg hDV
          have hDV := hDV'
          clear hDV'
          try simp only [Act.put]
          try simp only [List.setIfInBounds_toArray]
          try simp only [List.set]
          have T : Turned ab (ab + 1) U6 (((U6.setCell ⟨ab, 0, none⟩ (.int .i64 q)).setCell ⟨ab, 1, none⟩ (.slice p3 m c3)).setCell ⟨ab, 2, none⟩ (.slice r3 m2 d3)) := (((Turned.refl _ _ U6).setCell (p := ⟨ab, 0, none⟩) (Nat.le_refl _) (Nat.lt_succ_self _) _).setCell (p := ⟨ab, 1, none⟩) (Nat.le_refl _) (Nat.lt_succ_self _) _).setCell (p := ⟨ab, 2, none⟩) (Nat.le_refl _) (Nat.lt_succ_self _) _
          have hAb : ab < U6.heap.size := World.block_lt_of_cell? U6 _ hB.c0
          obtain ⟨a0, a1, a2, f0, f1, f2⟩ := hB
          refine wpAnyH_ready (rs := [6]) (by kernel_rfl) (by simp) ?_
          refine AllReadyH.cons rfl (fun K hK => ?_) AllReadyH.nil
          go_simp
          refine hK.out _ _ (hHeld.turned T hab hDV hbB) (fun hHeld => ?_)
          clear hK K
          try simp only [Act.put]
          try simp only [List.setIfInBounds_toArray]
          try simp only [List.set]
          refine wpAnyH_done (by kernel_rfl) ?_ _
          have b3 : RsE (((U6.setCell ⟨ab, 0, none⟩ (.int .i64 q)).setCell ⟨ab, 1, none⟩ (.slice p3 m c3)).setCell ⟨ab, 2, none⟩ (.slice r3 m2 d3)) ab q p3 m c3 r3 m2 d3 := ⟨by simp [go_sem, a0], by simp [go_sem, a1], by simp [go_sem, a2]⟩
          have y3 := y3.turned T hpos
          have hsz : hi ≤ (((U6.setCell ⟨ab, 0, none⟩ (.int .i64 q)).setCell ⟨ab, 1, none⟩ (.slice p3 m c3)).setCell ⟨ab, 2, none⟩ (.slice r3 m2 d3)).heap.size := by rw [World.size_setCell, World.size_setCell, World.size_setCell]; exact hle
          go_wp2_with fail
          go_meet
          case rel => exact ⟨ab, p3, c3, r3, d3, lo, hi, rfl, hHeld.g, b3, y3, hlo, hsz, hab⟩
      · have gg : Below U1.heap.size U1 (U1.alloc (.cells #[.int .i64 0, .slice none 0 0, .slice none 0 0] 62)) := by go_grown
        have hab : w2.heap.size ≤ U1.heap.size := hDV
        have hB : Rc3 (U1.alloc (.cells #[.int .i64 0, .slice none 0 0, .slice none 0 0] 62)) U1.heap.size := ⟨by simp [go_sem], by simp [go_sem], by simp [go_sem], by simp [go_sem], by simp [go_sem], by simp [go_sem]⟩
        have hDV : w2.heap.size ≤ (U1.alloc (.cells #[.int .i64 0, .slice none 0 0, .slice none 0 0] 62)).heap.size := Nat.le_trans hDV gg.size
        go_simp
        refine hK.out _ _ (hHeld.up gg) (fun hHeld => ?_)
        clear hK K
        have n1 := n1.below gg (Nat.le_refl _)
        clear gg
        generalize U1.alloc (.cells #[.int .i64 0, .slice none 0 0, .slice none 0 0] 62) = U7 at hHeld hB hDV n1 ⊢
        generalize U1.heap.size = ab at hB hab  ⊢
        try simp only [Act.put]
        try simp only [List.setIfInBounds_toArray]
        try simp only [List.set]
        refine wpAnyH_ready (rs := [3]) (by kernel_rfl) (by simp) ?_
        refine AllReadyH.cons rfl (fun K hK => ?_) AllReadyH.nil
        go_simp
        go_wp2_with (go_at_call 33; refine (HTr.out _ hHeld.g).mono ?_; rintro e U8 ⟨rb, rfl, gg, rr⟩)
        refine hK.out _ _ (hHeld.up gg) (fun hHeld => ?_)
        clear hK K
        have n1 := n1.below gg (Nat.le_refl _)
        have hB := hB.at gg (World.block_lt_of_cell? U7 _ hB.c0)
        have hDV' : w2.heap.size ≤ U8.heap.size := Nat.le_trans hDV gg.size
        clear gg hDV
        have hDV := hDV'
        clear hDV'
        try simp only [Act.put]
        try simp only [List.setIfInBounds_toArray]
        try simp only [List.set]
        refine wpAnyH_ready (rs := [4]) (by kernel_rfl) (by simp) ?_
        refine AllReadyH.cons rfl (fun K hK => ?_) AllReadyH.nil
        have hAb : ab < U8.heap.size := World.block_lt_of_cell? U8 _ hB.c0
        go_simp
        go_wp2_with (go_at_call 32; refine (HSpec.out _ _ _ n1 rr).mono ?_; rintro e U9 ⟨p3, c3, r3, d3, rfl, gg, y3⟩)
        refine hK.out _ _ (hHeld.up gg) (fun hHeld => ?_)
        clear hK K
        have hB := hB.at gg (World.block_lt_of_cell? U8 _ hB.c0)
        have hDV' : w2.heap.size ≤ U9.heap.size := Nat.le_trans hDV gg.size
        have hlo : w2.heap.size ≤ U8.heap.size := hDV
        have hle : U9.heap.size ≤ U9.heap.size := Nat.le_refl _
        have hpos : U9.heap.size ≤ ab ∨ ab + 1 ≤ U8.heap.size := .inr hAb
        obtain ⟨lo, hlo'⟩ : ∃ lo, U8.heap.size = lo := ⟨_, rfl⟩
        obtain ⟨hi, hhi'⟩ : ∃ hi, U9.heap.size = hi := ⟨_, rfl⟩
        have hle : hi ≤ U9.heap.size := Nat.le_of_eq hhi'.symm
        rw [hlo', hhi'] at y3
        rw [hlo'] at hlo
        rw [hlo', hhi'] at hpos
        clear hlo' hhi'
        clear gg hDV
        have hDV := hDV'
        clear hDV'
        try simp only [Act.put]
        try simp only [List.setIfInBounds_toArray]
        try simp only [List.set]
        have T : Turned ab (ab + 1) U9 (((U9.setCell ⟨ab, 0, none⟩ (.int .i64 q)).setCell ⟨ab, 1, none⟩ (.slice p3 m c3)).setCell ⟨ab, 2, none⟩ (.slice r3 m2 d3)) := (((Turned.refl _ _ U9).setCell (p := ⟨ab, 0, none⟩) (Nat.le_refl _) (Nat.lt_succ_self _) _).setCell (p := ⟨ab, 1, none⟩) (Nat.le_refl _) (Nat.lt_succ_self _) _).setCell (p := ⟨ab, 2, none⟩) (Nat.le_refl _) (Nat.lt_succ_self _) _
        have hAb : ab < U9.heap.size := World.block_lt_of_cell? U9 _ hB.c0
        obtain ⟨a0, a1, a2, f0, f1, f2⟩ := hB
        refine wpAnyH_ready (rs := [6]) (by kernel_rfl) (by simp) ?_
        refine AllReadyH.cons rfl (fun K hK => ?_) AllReadyH.nil
        go_simp
        refine hK.out _ _ (hHeld.turned T hab hDV hbB) (fun hHeld => ?_)
        clear hK K
        try simp only [Act.put]
        try simp only [List.setIfInBounds_toArray]
        try simp only [List.set]
        refine wpAnyH_done (by kernel_rfl) ?_ _
        have b3 : RsE (((U9.setCell ⟨ab, 0, none⟩ (.int .i64 q)).setCell ⟨ab, 1, none⟩ (.slice p3 m c3)).setCell ⟨ab, 2, none⟩ (.slice r3 m2 d3)) ab q p3 m c3 r3 m2 d3 := ⟨by simp [go_sem, a0], by simp [go_sem, a1], by simp [go_sem, a2]⟩
        have y3 := y3.turned T hpos
        have hsz : hi ≤ (((U9.setCell ⟨ab, 0, none⟩ (.int .i64 q)).setCell ⟨ab, 1, none⟩ (.slice p3 m c3)).setCell ⟨ab, 2, none⟩ (.slice r3 m2 d3)).heap.size := by rw [World.size_setCell, World.size_setCell, World.size_setCell]; exact hle
        go_wp2_with fail
        go_meet
        case rel => exact ⟨ab, p3, c3, r3, d3, lo, hi, rfl, hHeld.g, b3, y3, hlo, hsz, hab⟩
    · have gg : Below D0.heap.size D0 (D0.alloc (.cells #[.int .i64 0, .slice none 0 0, .slice none 0 0] 62)) := by go_grown
      have hab : w2.heap.size ≤ D0.heap.size := hDV
      have hB : Rc3 (D0.alloc (.cells #[.int .i64 0, .slice none 0 0, .slice none 0 0] 62)) D0.heap.size := ⟨by simp [go_sem], by simp [go_sem], by simp [go_sem], by simp [go_sem], by simp [go_sem], by simp [go_sem]⟩
      have hDV : w2.heap.size ≤ (D0.alloc (.cells #[.int .i64 0, .slice none 0 0, .slice none 0 0] 62)).heap.size := Nat.le_trans hDV gg.size
      go_simp
      refine hK.out _ _ (hHeld.up gg) (fun hHeld => ?_)
      clear hK K
      clear gg
      generalize D0.alloc (.cells #[.int .i64 0, .slice none 0 0, .slice none 0 0] 62) = U10 at hHeld hB hDV ⊢
      generalize D0.heap.size = ab at hB hab  ⊢
      try simp only [Act.put]
      try simp only [List.setIfInBounds_toArray]
      try simp only [List.set]
      refine wpAnyH_ready (rs := [1]) (by kernel_rfl) (by simp) ?_
      refine AllReadyH.cons rfl (fun K hK => ?_) AllReadyH.nil
      go_simp
      go_wp2_with (go_at_call 24; refine (HT.out _ hHeld.g).mono ?_; rintro e U11 ⟨rfl, gg, n1⟩)
      refine hK.out _ _ (hHeld.up gg) (fun hHeld => ?_)
      clear hK K
      have hB := hB.at gg (World.block_lt_of_cell? U10 _ hB.c0)
      have hDV' : w2.heap.size ≤ U11.heap.size := Nat.le_trans hDV gg.size
      clear gg hDV
      have hDV := hDV'
      clear hDV'
      generalize U10.heap.size = lb at n1 ⊢
      try simp only [Act.put]
      try simp only [List.setIfInBounds_toArray]
      try simp only [List.set]
      refine wpAnyH_ready (rs := [3]) (by kernel_rfl) (by simp) ?_
      refine AllReadyH.cons rfl (fun K hK => ?_) AllReadyH.nil
      go_simp
      go_wp2_with (go_at_call 33; refine (HTr.out _ hHeld.g).mono ?_; rintro e U12 ⟨rb, rfl, gg, rr⟩)
      refine hK.out _ _ (hHeld.up gg) (fun hHeld => ?_)
      clear hK K
      have n1 := n1.below gg (Nat.le_refl _)
      have hB := hB.at gg (World.block_lt_of_cell? U11 _ hB.c0)
      have hDV' : w2.heap.size ≤ U12.heap.size := Nat.le_trans hDV gg.size
      clear gg hDV
      have hDV := hDV'
      clear hDV'
      try simp only [Act.put]
      try simp only [List.setIfInBounds_toArray]
      try simp only [List.set]
      refine wpAnyH_ready (rs := [4]) (by kernel_rfl) (by simp) ?_
      refine AllReadyH.cons rfl (fun K hK => ?_) AllReadyH.nil
      have hAb : ab < U12.heap.size := World.block_lt_of_cell? U12 _ hB.c0
      go_simp
      go_wp2_with (go_at_call 32; refine (HSpec.out _ _ _ n1 rr).mono ?_; rintro e U13 ⟨p3, c3, r3, d3, rfl, gg, y3⟩)
      refine hK.out _ _ (hHeld.up gg) (fun hHeld => ?_)
      clear hK K
      have hB := hB.at gg (World.block_lt_of_cell? U12 _ hB.c0)
      have hDV' : w2.heap.size ≤ U13.heap.size := Nat.le_trans hDV gg.size
      have hlo : w2.heap.size ≤ U12.heap.size := hDV
      have hle : U13.heap.size ≤ U13.heap.size := Nat.le_refl _
      have hpos : U13.heap.size ≤ ab ∨ ab + 1 ≤ U12.heap.size := .inr hAb
      obtain ⟨lo, hlo'⟩ : ∃ lo, U12.heap.size = lo := ⟨_, rfl⟩
      obtain ⟨hi, hhi'⟩ : ∃ hi, U13.heap.size = hi := ⟨_, rfl⟩
      have hle : hi ≤ U13.heap.size := Nat.le_of_eq hhi'.symm
      rw [hlo', hhi'] at y3
      rw [hlo'] at hlo
      rw [hlo', hhi'] at hpos
      clear hlo' hhi'
      clear gg hDV
      have hDV := hDV'
      clear hDV'
      try simp only [Act.put]
      try simp only [List.setIfInBounds_toArray]
      try simp only [List.set]
      have T : Turned ab (ab + 1) U13 (((U13.setCell ⟨ab, 0, none⟩ (.int .i64 q)).setCell ⟨ab, 1, none⟩ (.slice p3 m c3)).setCell ⟨ab, 2, none⟩ (.slice r3 m2 d3)) := (((Turned.refl _ _ U13).setCell (p := ⟨ab, 0, none⟩) (Nat.le_refl _) (Nat.lt_succ_self _) _).setCell (p := ⟨ab, 1, none⟩) (Nat.le_refl _) (Nat.lt_succ_self _) _).setCell (p := ⟨ab, 2, none⟩) (Nat.le_refl _) (Nat.lt_succ_self _) _
      have hAb : ab < U13.heap.size := World.block_lt_of_cell? U13 _ hB.c0
      obtain ⟨a0, a1, a2, f0, f1, f2⟩ := hB
      refine wpAnyH_ready (rs := [6]) (by kernel_rfl) (by simp) ?_
      refine AllReadyH.cons rfl (fun K hK => ?_) AllReadyH.nil
      go_simp
      refine hK.out _ _ (hHeld.turned T hab hDV hbB) (fun hHeld => ?_)
      clear hK K
      try simp only [Act.put]
      try simp only [List.setIfInBounds_toArray]
      try simp only [List.set]
      refine wpAnyH_done (by kernel_rfl) ?_ _
      have b3 : RsE (((U13.setCell ⟨ab, 0, none⟩ (.int .i64 q)).setCell ⟨ab, 1, none⟩ (.slice p3 m c3)).setCell ⟨ab, 2, none⟩ (.slice r3 m2 d3)) ab q p3 m c3 r3 m2 d3 := ⟨by simp [go_sem, a0], by simp [go_sem, a1], by simp [go_sem, a2]⟩
      have y3 := y3.turned T hpos
      have hsz : hi ≤ (((U13.setCell ⟨ab, 0, none⟩ (.int .i64 q)).setCell ⟨ab, 1, none⟩ (.slice p3 m c3)).setCell ⟨ab, 2, none⟩ (.slice r3 m2 d3)).heap.size := by rw [World.size_setCell, World.size_setCell, World.size_setCell]; exact hle
      go_wp2_with fail
      go_meet
      case rel => exact ⟨ab, p3, c3, r3, d3, lo, hi, rfl, hHeld.g, b3, y3, hlo, hsz, hab⟩
  case rest =>
    obtain ⟨b3, a3, c3, a4, c4, lo3, hi3, rfl, g3', C3, s3, hlo3, hhi3, hb3⟩ := hcut
    have g3 : Below Y.heap.size Y wc := gB.trans (g3'.mono gB.size)
    have hl3 := C3.lt
    clear g3' gB hbB hlo3 hb3
    go_wp2_with fail
    refine (toByteSS_any a ps n c _ HN.out hn HP.out (HRd.out _ g3)).mono ?_
    rintro e w4 ⟨rfl, g4, hl4, F4, o4⟩
    have C3 := C3.below g4
    have s3 := s3.below g4
    have hYb4 : Y.heap.size ≤ wc.heap.size := g3.size
    have g4 : Below Y.heap.size Y w4 := g3.trans (g4.mono g3.size)
    generalize wc.heap.size = b4 at o4 hl4 hl3 hhi3 hYb4 ⊢
    clear g3
    obtain ⟨zzz0, zzz1, zzz2, zzz3⟩ := HCx.out _ g4
    go_wp2_with fail
    refine (toRecord_any kd tx pg ra rn rc P A C Z _ hmr (HRr.out _ g4)).mono ?_
    rintro e w4' ⟨rb, A5, F5, rfl, g5, or5⟩
    clear zzz0 zzz1 zzz2 zzz3
    go_upto_region 11 with (fail)
    generalize hY : World.alloc _ _ = V4
    have gV4 : Below w4'.heap.size w4' V4 := by rw [← hY]; go_grown
    have X8 : RcAt V4 w4'.heap.size kd tx pg (some ⟨rb, 0, none⟩) rn rn := by rw [← hY]; exact ⟨by simp [go_sem], by simp [go_sem], by simp [go_sem], by simp [go_sem]⟩
    have hs8V : w4'.heap.size < V4.heap.size := by rw [← hY]; simp
    clear hY
    have or5 := or5.below gV4
    have hs45 := g5.size
    have hb6 : b4 + 1 ≤ w4.heap.size := by omega
    have g5 : Below w4.heap.size w4 V4 := g5.trans (gV4.mono g5.size)
    clear gV4
    have C3 := C3.below g5
    have s3 := s3.below g5
    have HF : Hid (∀ i zs, i < n → ps[i]? = some zs → zs ≠ [] → F4 i < w4.heap.size) := fun i zs hi hz hne => o4.lt hi hz hne
    have o4 := o4.below hl4 g5
    have hl4 := Nat.lt_of_lt_of_le hl4 g5.size
    have n4 := o4.readsM HN.out
    have rr4 : RdR V4 rb rn P Z := ⟨A5, _, or5.reads⟩
    have g4 := g4.trans (g5.mono g4.size)
    clear g5
    generalize w4'.heap.size = b8 at or5 X8 hs8V hs45 ⊢
    generalize w4.heap.size = b6 at or5 HF hs45 hb6
    obtain ⟨zzz0, zzz1, zzz2, zzz3⟩ := X8
    go_wp2_with fail
    refine (HImpl.out _ _ _ n4 rr4).mono ?_
    rintro e w5 ⟨a5, c5, a6, c6, rfl, g5, s5⟩
    have X8 : RcAt w5 b8 kd tx pg (some ⟨rb, 0, none⟩) rn rn := RcAt.up (V := V4) ⟨zzz0, zzz1, zzz2, zzz3⟩ g5
    have or5 := or5.below g5
    have hs5 := g5.size
    have C3 := C3.below g5
    have s3 := s3.below g5
    have o5 := o4.below hl4 g5
    have hl5 := Nat.lt_of_lt_of_le hl4 g5.size
    have g5 : Below Y.heap.size Y w5 := g4.trans (g5.mono g4.size)
    clear g4 o4 n4 rr4 zzz0 zzz1 zzz2 zzz3
    go_upto_region 12 with (fail)
    generalize hY : World.alloc _ _ = Y5
    have gY5 : Below w5.heap.size w5 Y5 := by rw [← hY]; go_grown
    have C5 : RsE Y5 w5.heap.size q a5 m c5 a6 m2 c6 := by rw [← hY]; exact ⟨by simp [go_sem], by simp [go_sem], by simp [go_sem]⟩
    have C3 := C3.below gY5
    have s3 := s3.below gY5
    have s5 := s5.below gY5
    have o5 := o5.below hl5 gY5
    have X8 := X8.up gY5
    have or5 := or5.below gY5
    have hl5 := Nat.lt_of_lt_of_le hl5 gY5.size
    have g5 := g5.trans (gY5.mono g5.size)
    clear hY gY5
    generalize w5.heap.size = b5 at C5 s5 hs5 ⊢
    have hb9 : b8 + 1 ≤ V4.heap.size := hs8V
    generalize V4.heap.size = b9 at s5 hs5 hl4 hb9
    clear hs8V
    have hcon := eqEd_same q a5 a6 a3 a4 m m2 c5 c6 c3 c4 es qs _ _ _ _ Y5 HM.out HM2.out HB.out.1 HB.out.2 s5 s3
    obtain ⟨x0, x1, x2⟩ := C3
    obtain ⟨y0, y1, y2⟩ := C5
    go_wp2_with (go_at_call 35; refine hcon.mono ?_)
    rintro e w6 ⟨rfl, g6⟩
    have C3 : RsE w6 b3 q a3 m c3 a4 m2 c4 := RsE.below (w := Y5) ⟨x0, x1, x2⟩ g6
    have C5 : RsE w6 b5 q a5 m c5 a6 m2 c6 := RsE.below (w := Y5) ⟨y0, y1, y2⟩ g6
    have s3 := s3.below g6
    have s5 := s5.below g6
    have o6 := o5.below hl5 g6
    have X8 := X8.up g6
    have or5 := or5.below g6
    have hl6 := Nat.lt_of_lt_of_le hl5 g6.size
    have g6 := g5.trans (g6.mono g5.size)
    clear g5 o5 hl5 x0 x1 x2 y0 y1 y2 hcon
    go_wp2_with fail
    refine (toByteSS_any a ps n c _ HN.out hn HP.out (HRd.out _ g6)).mono ?_
    rintro e w7 ⟨rfl, g7, hl7, F7, o7⟩
    have C3 := C3.below g7
    have C5 := C5.below g7
    have s3 := s3.below g7
    have s5 := s5.below g7
    have o6 := o6.below hl6 g7
    have X8 := X8.up g7
    have or5 := or5.below g7
    have hl6 := Nat.lt_of_lt_of_le hl6 g7.size
    have g7 : Below Y.heap.size Y w7 := g6.trans (g7.mono g6.size)
    generalize w6.heap.size = b7 at o7 hl7 ⊢
    clear g6
    go_wp2_with fail
    refine (eqByteSS_same _ _ ps n F4 F7 _ HN.out hm HP.out o6 o7 hl6 hl7).mono ?_
    rintro e w8 ⟨rfl, g8⟩
    have C3 := C3.below g8
    have C5 := C5.below g8
    have s3 := s3.below g8
    have s5 := s5.below g8
    have o8 := o6.below hl6 g8
    have hl8 := Nat.lt_of_lt_of_le hl6 g8.size
    have g8' := g8
    have g8 : Below Y.heap.size Y w8 := g7.trans (g8.mono g7.size)
    have X8 := X8.up g8'
    have or5 := or5.below g8'
    clear g7 o6 o7 hl7 g8'
    go_upto_region 16 with (fail)
    have H : LwT w8 bx kd tx pg ra rn rc b8 rb w8.drew := ⟨HCx.out _ (g8.trans ((Below.refl _ w8).drew.mono g8.size)), X8.up (Below.refl _ w8).drew, (Below.refl _ w8).drew⟩
    refine wp_region_held_drew (S := LwT w8 bx kd tx pg ra rn rc b8 rb) (by kernel_rfl) H (fun hHeld => ?_)
    generalize w8.drew = D0 at hHeld ⊢
    clear H
    refine wpAnyH_take (i := 0) (v := ?v3) rfl (by kernel_rfl) (by kernel_rfl) (by kernel_rfl) (fun _ _ _ h => h) (Or.inl ⟨by kernel_rfl, ?h3⟩) hHeld ?_
    case h3 => intro u hSw; (obtain ⟨z0, z1, z2, z3⟩ := hSw.x); clear hSw; go_simp; try with_reducible rfl
    try simp only [List.getElem_toArray]
    try simp only [List.getElem_cons_succ]
    try simp only [List.getElem_cons_zero]
    try simp only [Act.put]
    try simp only [List.setIfInBounds_toArray]
    try simp only [List.set]
    refine wpAnyH_take (i := 1) (v := ?v4) rfl (by kernel_rfl) (by kernel_rfl) (by kernel_rfl) (fun _ _ _ h => h) (Or.inl ⟨by kernel_rfl, ?h4⟩) hHeld ?_
    case h4 => intro u hSw; (obtain ⟨z0, z1, z2, z3⟩ := hSw.c); clear hSw; go_simp; try with_reducible rfl
    try simp only [List.getElem_toArray]
    try simp only [List.getElem_cons_succ]
    try simp only [List.getElem_cons_zero]
    try simp only [Act.put]
    try simp only [List.setIfInBounds_toArray]
    try simp only [List.set]
    refine wpAnyH_ready (rs := [2]) (by kernel_rfl) (by simp) ?_
    refine AllReadyH.cons rfl (fun K hK => ?_) AllReadyH.nil
    go_simp
    go_wp2_with (go_at_call 33; refine (toRecord_any kd tx pg ra rn rc P A C Z _ hmr (HRr.out _ (g8.trans (hHeld.g.mono g8.size)))).mono ?_; rintro e U61 ⟨rb7, A7, F7, rfl, gg, or7⟩)
    refine hK.out _ _ (hHeld.up gg) (fun hHeld => ?_)
    clear hK K
    clear gg
    generalize D0.heap.size = lo7 at or7
    generalize U61.heap.size = hi7 at or7
    try simp only [Act.put]
    try simp only [List.setIfInBounds_toArray]
    try simp only [List.set]
    refine wpAnyH_ready (rs := [3]) (by kernel_rfl) (by simp) ?_
    refine AllReadyH.cons rfl (fun K hK => ?_) AllReadyH.nil
    go_simp
    go_wp2_with (go_at_call 36; refine (eqRecord_same kd tx pg rb rb7 rn rn rn P A5 A7 _ _ Z F5 F7 _ _ _ _ _ hmr (or5.below hHeld.g) or7).mono ?_; rintro e U62 ⟨rfl, gg⟩)
    refine hK.out _ _ (hHeld.up gg) (fun hHeld => ?_)
    clear hK K
    clear gg or7
    try simp only [Act.put]
    try simp only [List.setIfInBounds_toArray]
    try simp only [List.set]
    refine wpAnyH_take (i := 4) (v := ?v5) rfl (by kernel_rfl) (by kernel_rfl) (by kernel_rfl) (fun _ _ _ h => h) (Or.inl ⟨by kernel_rfl, ?h5⟩) hHeld ?_
    case h5 => intro u hSw; clear hSw; go_simp; try with_reducible rfl
    try simp only [List.getElem_toArray]
    try simp only [List.getElem_cons_succ]
    try simp only [List.getElem_cons_zero]
    try simp only [Act.put]
    try simp only [List.setIfInBounds_toArray]
    try simp only [List.set]
    refine wpAnyH_done (by kernel_rfl) ?_ _
    have gH := hHeld.g
    have X8 := hHeld.x
    have C3 := C3.below gH
    have C5 := C5.below gH
    have s3 := s3.below gH
    have s5 := s5.below gH
    have o8 := o8.below hl8 gH
    have or5 := or5.below gH
    have g8 := g8.trans (gH.mono g8.size)
    clear gH hHeld hl8
    go_wp2_with fail
    refine (markByteSS_any b4 n n b6 ps F4 _ HN.out hn HP.out o8 HF.out).mono ?_
    rintro e w9' ⟨k9, rfl, ⟨hk90, hk91⟩, t9⟩
    have C3 := C3.turned t9 (.inl (by omega))
    have C5 := C5.turned t9 (.inr (by omega))
    have s3 := s3.turned t9 (.inl (by omega))
    have s5 := s5.turned t9 (.inr (by omega))
    have or5 := or5.turned t9 (.inr (Nat.le_refl _))
    have X8 : RcAt w9' b8 kd tx pg (some ⟨rb, 0, none⟩) rn rn := ⟨t9.cell (p := ⟨b8, 0, none⟩) X8.c0 (.inr hs45), t9.cell (p := ⟨b8, 1, none⟩) X8.c1 (.inr hs45), t9.cell (p := ⟨b8, 2, none⟩) X8.c2 (.inr hs45), t9.cell (p := ⟨b8, 3, none⟩) X8.c3 (.inr hs45)⟩
    have hs8 := g8.size
    have g9 : Below Y.heap.size Y w9' := g8.trans (t9.toBelow hs8 (by omega))
    clear g8 o8 t9
    have hcon := markRecord_own kd tx pg rb rn rn b6 b8 P A5 _ Z F5 k9 w9' hmr hk90 (by omega) or5
    obtain ⟨k10, hk10⟩ : ∃ k10 : Int, k10 = mk Z k9 rn := ⟨_, rfl⟩
    have hk10n : ¬ k10 < 0 := by rw [hk10]; unfold mk; omega
    rw [← hk10] at hcon
    clear hk10 hk90 hk91
    obtain ⟨zzz0, zzz1, zzz2, zzz3⟩ := X8
    go_wp2_with fail
    refine hcon.mono ?_
    rintro e w9 ⟨rfl, t9, -⟩
    have C3 := C3.turned t9 (.inl (by omega))
    have C5 := C5.turned t9 (.inr (by omega))
    have s3 := s3.turned t9 (.inl (by omega))
    have s5 := s5.turned t9 (.inr (by omega))
    have hs9 := g9.size
    have g9 : Below Y.heap.size Y w9 := g9.trans (t9.toBelow hs9 (by omega))
    clear t9 zzz0 zzz1 zzz2 zzz3 hcon or5
    obtain ⟨x0, x1, x2⟩ := C3
    obtain ⟨y0, y1, y2⟩ := C5
    have hcon := eqEd_same q a5 a6 a3 a4 m m2 c5 c6 c3 c4 es qs _ _ _ _ w9 HM.out HM2.out HB.out.1 HB.out.2 s5 s3
    go_wp2_with (go_at_call 35; refine hcon.mono ?_)
    rintro e w10 ⟨rfl, g10⟩
    have C3 : RsE w10 b3 q a3 m c3 a4 m2 c4 := RsE.below (w := w9) ⟨x0, x1, x2⟩ g10
    have C5 : RsE w10 b5 q a5 m c5 a6 m2 c6 := RsE.below (w := w9) ⟨y0, y1, y2⟩ g10
    have s3 := s3.below g10
    have s5 := s5.below g10
    have g10 := g9.trans (g10.mono g9.size)
    clear g9 x0 x1 x2 y0 y1 y2 hcon
    obtain ⟨y0, y1, y2⟩ := C5
    have hb5s : b5 ≤ w10.heap.size := Nat.le_of_lt (World.block_lt_of_cell? w10 _ y0)
    have hcon := markEd_any q a5 a6 m m2 c5 c6 es qs b9 b5 w10 HM.out HM2.out HB.out.1 HB.out.2 s5 hb5s
    obtain ⟨mm, hmm⟩ : ∃ mm : Int, mm = endQ qs (endE es 1) := ⟨_, rfl⟩
    have hmm0 : ¬ mm < 0 := by have := endQE_pos es qs HB.out.1; omega
    have HMM : Hid (endQ qs (endE es 1) = mm) := hmm.symm
    rw [← hmm] at hcon
    clear hmm
    go_wp2_with (go_at_call 38; refine hcon.mono ?_)
    rintro e w11 ⟨rfl, t11, s5'⟩
    have C3 := C3.turned t11 (.inl (by omega))
    have C5 : RsE w11 b5 q a5 m c5 a6 m2 c6 := RsE.turned (w := w10) ⟨y0, y1, y2⟩ t11 (.inr (Nat.le_refl _))
    have s3 := s3.turned t11 (.inl (by omega))
    have hs10 := g10.size
    have g11 : Below Y.heap.size Y w11 := g10.trans (t11.toBelow hs10 (by omega))
    clear g10 t11 y0 y1 y2 hcon s5
    obtain ⟨y0, y1, y2⟩ := C5
    have hcon := heldEd_any q a5 a6 m m2 c5 c6 es qs b9 b5 w11 HM.out HM2.out HB.out.1 HB.out.2 s5'
    rw [HMM.out] at hcon
    go_wp2_with (go_at_call 39; refine hcon.mono ?_)
    rintro e w12 ⟨rfl, g12⟩
    have C3 := C3.below g12
    have C5 : RsE w12 b5 q a5 m c5 a6 m2 c6 := RsE.below (w := w11) ⟨y0, y1, y2⟩ g12
    have s3 := s3.below g12
    have s5 := s5'.below g12
    have gB := g11.trans (g12.mono g11.size)
    clear g11 g12 y0 y1 y2 hcon s5'
    go_upto_region 31 with (fail)
    have hbB : bx < w12.heap.size := Nat.lt_of_lt_of_le hbY gB.size
    go_cut [13] from 14 (fun s6 wc => ∃ (ab : Nat) (p3 : Option Addr) (c3 : Nat) (r3 : Option Addr) (d3 lo hi : Nat), s6 = .pointer (some ⟨ab, 0, none⟩) ∧ Below w12.heap.size w12 wc ∧ RsE wc ab q p3 m c3 r3 m2 d3 ∧ EdH lo hi wc p3 es r3 qs ∧ w12.heap.size ≤ lo ∧ hi ≤ wc.heap.size ∧ w12.heap.size ≤ ab)
    case first =>
      clear C3 C5 s3 s5
      have H : LwS w12 bx kd tx pg ra rn rc w12.drew := ⟨HCx.out _ (gB.trans ((Below.refl _ w12).drew.mono gB.size)), (Below.refl _ w12).drew⟩
      refine wp_region_held_drew (S := LwS w12 bx kd tx pg ra rn rc) (by kernel_rfl) H (fun hHeld => ?_)
      have hDV : w12.heap.size ≤ w12.drew.heap.size := Nat.le_refl _
      generalize w12.drew = D0 at hHeld hDV ⊢
      clear H
      have HT : Hid (∀ V, Below w12.heap.size w12 V → Calls Try.prog 24 #[.slice a n c] V fun e w' => e = .returned (.slice (some ⟨V.heap.size, 0, none⟩) n n) ∧ Below V.heap.size V w' ∧ PgRdN w' (some ⟨V.heap.size, 0, none⟩) ps) := fun V hV => HTo.out V (gB.trans (hV.mono gB.size))
      have HTr : Hid (∀ V, Below w12.heap.size w12 V → Calls Try.prog 33 #[.agg #[.int .i64 kd, .int .i64 tx, .int .i64 pg, .slice ra rn rc]] V fun e w' => ∃ rb, e = .returned (.agg #[.int .i64 kd, .int .i64 tx, .int .i64 pg, .slice (some ⟨rb, 0, none⟩) rn rn]) ∧ Below V.heap.size V w' ∧ RdR w' rb rn P Z) := fun V hV => HRo.out V (gB.trans (hV.mono gB.size))
      clear gB
      refine wpAnyH_take (i := 0) (v := ?v6) rfl (by kernel_rfl) (by kernel_rfl) (by kernel_rfl) (fun _ _ _ h => h) (Or.inl ⟨by kernel_rfl, ?h6⟩) hHeld ?_
      case h6 => intro u hSw; clear hSw; go_simp; try with_reducible rfl
      try simp only [List.getElem_toArray]
      try simp only [List.getElem_cons_succ]
      try simp only [List.getElem_cons_zero]
      try simp only [Act.put]
      try simp only [List.setIfInBounds_toArray]
      try simp only [List.set]
      refine wpAnyH_take (i := 2) (v := ?v7) rfl (by kernel_rfl) (by kernel_rfl) (by kernel_rfl) (fun _ _ _ h => h) (Or.inl ⟨by kernel_rfl, ?h7⟩) hHeld ?_
      case h7 => intro u hSw; (obtain ⟨z0, z1, z2, z3⟩ := hSw.c); clear hSw; go_simp; try with_reducible rfl
      try simp only [List.getElem_toArray]
      try simp only [List.getElem_cons_succ]
      try simp only [List.getElem_cons_zero]
      try simp only [Act.put]
      try simp only [List.setIfInBounds_toArray]
      try simp only [List.set]
      refine wpAnyH_ready (rs := [1, 5]) (by kernel_rfl) (by simp) ?_
      refine AllReadyH.cons rfl (fun K hK => ?_) (AllReadyH.cons rfl (fun K hK => ?_) AllReadyH.nil)
      · go_simp
        go_wp2_with (go_at_call 24; refine (HT.out _ hHeld.g).mono ?_; rintro e U14 ⟨rfl, gg, n1⟩)
        refine hK.out _ _ (hHeld.up gg) (fun hHeld => ?_)
        clear hK K
        have hDV' : w12.heap.size ≤ U14.heap.size := Nat.le_trans hDV gg.size
        clear gg hDV
        have hDV := hDV'
        clear hDV'
        generalize D0.heap.size = lb at n1 ⊢
        try simp only [Act.put]
        try simp only [List.setIfInBounds_toArray]
        try simp only [List.set]
        refine wpAnyH_ready (rs := [3, 5]) (by kernel_rfl) (by simp) ?_
        refine AllReadyH.cons rfl (fun K hK => ?_) (AllReadyH.cons rfl (fun K hK => ?_) AllReadyH.nil)
        · go_simp
          go_wp2_with (go_at_call 33; refine (HTr.out _ hHeld.g).mono ?_; rintro e U15 ⟨rb, rfl, gg, rr⟩)
          refine hK.out _ _ (hHeld.up gg) (fun hHeld => ?_)
          clear hK K
          have n1 := n1.below gg (Nat.le_refl _)
          have hDV' : w12.heap.size ≤ U15.heap.size := Nat.le_trans hDV gg.size
          clear gg hDV
          have hDV := hDV'
          clear hDV'
          try simp only [Act.put]
          try simp only [List.setIfInBounds_toArray]
          try simp only [List.set]
          refine wpAnyH_ready (rs := [4, 5]) (by kernel_rfl) (by simp) ?_
          refine AllReadyH.cons rfl (fun K hK => ?_) (AllReadyH.cons rfl (fun K hK => ?_) AllReadyH.nil)
          · go_simp
            go_wp2_with (go_at_call 34; refine (HImpl.out _ _ _ n1 rr).mono ?_; rintro e U16 ⟨p3, c3, r3, d3, rfl, gg, y3⟩)
            refine hK.out _ _ (hHeld.up gg) (fun hHeld => ?_)
            clear hK K
            have hDV' : w12.heap.size ≤ U16.heap.size := Nat.le_trans hDV gg.size
            have hlo : w12.heap.size ≤ U15.heap.size := hDV
            have hle : U16.heap.size ≤ U16.heap.size := Nat.le_refl _
            obtain ⟨lo, hlo'⟩ : ∃ lo, U15.heap.size = lo := ⟨_, rfl⟩
            obtain ⟨hi, hhi'⟩ : ∃ hi, U16.heap.size = hi := ⟨_, rfl⟩
            have hle : hi ≤ U16.heap.size := Nat.le_of_eq hhi'.symm
            rw [hlo', hhi'] at y3
            rw [hlo'] at hlo
            clear hlo' hhi'
            clear gg hDV
            have hDV := hDV'
            clear hDV'
            try simp only [Act.put]
            try simp only [List.setIfInBounds_toArray]
            try simp only [List.set]
            refine wpAnyH_ready (rs := [5]) (by kernel_rfl) (by simp) ?_
            refine AllReadyH.cons rfl (fun K hK => ?_) AllReadyH.nil
            have gg : Below U16.heap.size U16 (U16.alloc (.cells #[.int .i64 0, .slice none 0 0, .slice none 0 0] 62)) := by go_grown
            have hab : w12.heap.size ≤ U16.heap.size := hDV
            have hB : Rc3 (U16.alloc (.cells #[.int .i64 0, .slice none 0 0, .slice none 0 0] 62)) U16.heap.size := ⟨by simp [go_sem], by simp [go_sem], by simp [go_sem], by simp [go_sem], by simp [go_sem], by simp [go_sem]⟩
            have hpos : hi ≤ U16.heap.size ∨ U16.heap.size + 1 ≤ lo := .inl hle
            have hle : hi ≤ (U16.alloc (.cells #[.int .i64 0, .slice none 0 0, .slice none 0 0] 62)).heap.size := Nat.le_trans hle gg.size
            have hDV : w12.heap.size ≤ (U16.alloc (.cells #[.int .i64 0, .slice none 0 0, .slice none 0 0] 62)).heap.size := Nat.le_trans hDV gg.size
            go_simp
            refine hK.out _ _ (hHeld.up gg) (fun hHeld => ?_)
            clear hK K
            have y3 := y3.below gg
            clear gg
            generalize U16.alloc (.cells #[.int .i64 0, .slice none 0 0, .slice none 0 0] 62) = U17 at hHeld hB hDV y3 hle ⊢
            generalize U16.heap.size = ab at hB hab hpos ⊢
            try simp only [Act.put]
            try simp only [List.setIfInBounds_toArray]
            try simp only [List.set]
            have T : Turned ab (ab + 1) U17 (((U17.setCell ⟨ab, 0, none⟩ (.int .i64 q)).setCell ⟨ab, 1, none⟩ (.slice p3 m c3)).setCell ⟨ab, 2, none⟩ (.slice r3 m2 d3)) := (((Turned.refl _ _ U17).setCell (p := ⟨ab, 0, none⟩) (Nat.le_refl _) (Nat.lt_succ_self _) _).setCell (p := ⟨ab, 1, none⟩) (Nat.le_refl _) (Nat.lt_succ_self _) _).setCell (p := ⟨ab, 2, none⟩) (Nat.le_refl _) (Nat.lt_succ_self _) _
            have hAb : ab < U17.heap.size := World.block_lt_of_cell? U17 _ hB.c0
            obtain ⟨a0, a1, a2, f0, f1, f2⟩ := hB
            refine wpAnyH_ready (rs := [6]) (by kernel_rfl) (by simp) ?_
            refine AllReadyH.cons rfl (fun K hK => ?_) AllReadyH.nil
            go_simp
            refine hK.out _ _ (hHeld.turned T hab hDV hbB) (fun hHeld => ?_)
            clear hK K
            try simp only [Act.put]
            try simp only [List.setIfInBounds_toArray]
            try simp only [List.set]
            refine wpAnyH_done (by kernel_rfl) ?_ _
            have b3 : RsE (((U17.setCell ⟨ab, 0, none⟩ (.int .i64 q)).setCell ⟨ab, 1, none⟩ (.slice p3 m c3)).setCell ⟨ab, 2, none⟩ (.slice r3 m2 d3)) ab q p3 m c3 r3 m2 d3 := ⟨by simp [go_sem, a0], by simp [go_sem, a1], by simp [go_sem, a2]⟩
            have y3 := y3.turned T hpos
            have hsz : hi ≤ (((U17.setCell ⟨ab, 0, none⟩ (.int .i64 q)).setCell ⟨ab, 1, none⟩ (.slice p3 m c3)).setCell ⟨ab, 2, none⟩ (.slice r3 m2 d3)).heap.size := by rw [World.size_setCell, World.size_setCell, World.size_setCell]; exact hle
            go_wp2_with fail
            go_meet
            case rel => exact ⟨ab, p3, c3, r3, d3, lo, hi, rfl, hHeld.g, b3, y3, hlo, hsz, hab⟩
          · have gg : Below U15.heap.size U15 (U15.alloc (.cells #[.int .i64 0, .slice none 0 0, .slice none 0 0] 62)) := by go_grown
            have hab : w12.heap.size ≤ U15.heap.size := hDV
            have hB : Rc3 (U15.alloc (.cells #[.int .i64 0, .slice none 0 0, .slice none 0 0] 62)) U15.heap.size := ⟨by simp [go_sem], by simp [go_sem], by simp [go_sem], by simp [go_sem], by simp [go_sem], by simp [go_sem]⟩
            have hDV : w12.heap.size ≤ (U15.alloc (.cells #[.int .i64 0, .slice none 0 0, .slice none 0 0] 62)).heap.size := Nat.le_trans hDV gg.size
            go_simp
            refine hK.out _ _ (hHeld.up gg) (fun hHeld => ?_)
            clear hK K
            have n1 := n1.below gg (Nat.le_refl _)
            have rr := rr.up gg
            clear gg
            generalize U15.alloc (.cells #[.int .i64 0, .slice none 0 0, .slice none 0 0] 62) = U18 at hHeld hB hDV n1 rr ⊢
            generalize U15.heap.size = ab at hB hab  ⊢
            try simp only [Act.put]
            try simp only [List.setIfInBounds_toArray]
            try simp only [List.set]
            refine wpAnyH_ready (rs := [4]) (by kernel_rfl) (by simp) ?_
            refine AllReadyH.cons rfl (fun K hK => ?_) AllReadyH.nil
            have hAb : ab < U18.heap.size := World.block_lt_of_cell? U18 _ hB.c0
            go_simp
            go_wp2_with (go_at_call 34; refine (HImpl.out _ _ _ n1 rr).mono ?_; rintro e U19 ⟨p3, c3, r3, d3, rfl, gg, y3⟩)
            refine hK.out _ _ (hHeld.up gg) (fun hHeld => ?_)
            clear hK K
            have hB := hB.at gg (World.block_lt_of_cell? U18 _ hB.c0)
            have hDV' : w12.heap.size ≤ U19.heap.size := Nat.le_trans hDV gg.size
            have hlo : w12.heap.size ≤ U18.heap.size := hDV
            have hle : U19.heap.size ≤ U19.heap.size := Nat.le_refl _
            have hpos : U19.heap.size ≤ ab ∨ ab + 1 ≤ U18.heap.size := .inr hAb
            obtain ⟨lo, hlo'⟩ : ∃ lo, U18.heap.size = lo := ⟨_, rfl⟩
            obtain ⟨hi, hhi'⟩ : ∃ hi, U19.heap.size = hi := ⟨_, rfl⟩
            have hle : hi ≤ U19.heap.size := Nat.le_of_eq hhi'.symm
            rw [hlo', hhi'] at y3
            rw [hlo'] at hlo
            rw [hlo', hhi'] at hpos
            clear hlo' hhi'
            clear gg hDV
            have hDV := hDV'
            clear hDV'
            try simp only [Act.put]
            try simp only [List.setIfInBounds_toArray]
            try simp only [List.set]
            have T : Turned ab (ab + 1) U19 (((U19.setCell ⟨ab, 0, none⟩ (.int .i64 q)).setCell ⟨ab, 1, none⟩ (.slice p3 m c3)).setCell ⟨ab, 2, none⟩ (.slice r3 m2 d3)) := (((Turned.refl _ _ U19).setCell (p := ⟨ab, 0, none⟩) (Nat.le_refl _) (Nat.lt_succ_self _) _).setCell (p := ⟨ab, 1, none⟩) (Nat.le_refl _) (Nat.lt_succ_self _) _).setCell (p := ⟨ab, 2, none⟩) (Nat.le_refl _) (Nat.lt_succ_self _) _
            have hAb : ab < U19.heap.size := World.block_lt_of_cell? U19 _ hB.c0
            obtain ⟨a0, a1, a2, f0, f1, f2⟩ := hB
            refine wpAnyH_ready (rs := [6]) (by kernel_rfl) (by simp) ?_
            refine AllReadyH.cons rfl (fun K hK => ?_) AllReadyH.nil
            go_simp
            refine hK.out _ _ (hHeld.turned T hab hDV hbB) (fun hHeld => ?_)
            clear hK K
            try simp only [Act.put]
            try simp only [List.setIfInBounds_toArray]
            try simp only [List.set]
            refine wpAnyH_done (by kernel_rfl) ?_ _
            have b3 : RsE (((U19.setCell ⟨ab, 0, none⟩ (.int .i64 q)).setCell ⟨ab, 1, none⟩ (.slice p3 m c3)).setCell ⟨ab, 2, none⟩ (.slice r3 m2 d3)) ab q p3 m c3 r3 m2 d3 := ⟨by simp [go_sem, a0], by simp [go_sem, a1], by simp [go_sem, a2]⟩
            have y3 := y3.turned T hpos
            have hsz : hi ≤ (((U19.setCell ⟨ab, 0, none⟩ (.int .i64 q)).setCell ⟨ab, 1, none⟩ (.slice p3 m c3)).setCell ⟨ab, 2, none⟩ (.slice r3 m2 d3)).heap.size := by rw [World.size_setCell, World.size_setCell, World.size_setCell]; exact hle
            go_wp2_with fail
            go_meet
            case rel => exact ⟨ab, p3, c3, r3, d3, lo, hi, rfl, hHeld.g, b3, y3, hlo, hsz, hab⟩
        · have gg : Below U14.heap.size U14 (U14.alloc (.cells #[.int .i64 0, .slice none 0 0, .slice none 0 0] 62)) := by go_grown
          have hab : w12.heap.size ≤ U14.heap.size := hDV
          have hB : Rc3 (U14.alloc (.cells #[.int .i64 0, .slice none 0 0, .slice none 0 0] 62)) U14.heap.size := ⟨by simp [go_sem], by simp [go_sem], by simp [go_sem], by simp [go_sem], by simp [go_sem], by simp [go_sem]⟩
          have hDV : w12.heap.size ≤ (U14.alloc (.cells #[.int .i64 0, .slice none 0 0, .slice none 0 0] 62)).heap.size := Nat.le_trans hDV gg.size
          go_simp
          refine hK.out _ _ (hHeld.up gg) (fun hHeld => ?_)
          clear hK K
          have n1 := n1.below gg (Nat.le_refl _)
          clear gg
          generalize U14.alloc (.cells #[.int .i64 0, .slice none 0 0, .slice none 0 0] 62) = U20 at hHeld hB hDV n1 ⊢
          generalize U14.heap.size = ab at hB hab  ⊢
          try simp only [Act.put]
          try simp only [List.setIfInBounds_toArray]
          try simp only [List.set]
          refine wpAnyH_ready (rs := [3]) (by kernel_rfl) (by simp) ?_
          refine AllReadyH.cons rfl (fun K hK => ?_) AllReadyH.nil
          go_simp
          go_wp2_with (go_at_call 33; refine (HTr.out _ hHeld.g).mono ?_; rintro e U21 ⟨rb, rfl, gg, rr⟩)
          refine hK.out _ _ (hHeld.up gg) (fun hHeld => ?_)
          clear hK K
          have n1 := n1.below gg (Nat.le_refl _)
          have hB := hB.at gg (World.block_lt_of_cell? U20 _ hB.c0)
          have hDV' : w12.heap.size ≤ U21.heap.size := Nat.le_trans hDV gg.size
          clear gg hDV
          have hDV := hDV'
          clear hDV'
          try simp only [Act.put]
          try simp only [List.setIfInBounds_toArray]
          try simp only [List.set]
          refine wpAnyH_ready (rs := [4]) (by kernel_rfl) (by simp) ?_
          refine AllReadyH.cons rfl (fun K hK => ?_) AllReadyH.nil
          have hAb : ab < U21.heap.size := World.block_lt_of_cell? U21 _ hB.c0
          go_simp
          go_wp2_with (go_at_call 34; refine (HImpl.out _ _ _ n1 rr).mono ?_; rintro e U22 ⟨p3, c3, r3, d3, rfl, gg, y3⟩)
          refine hK.out _ _ (hHeld.up gg) (fun hHeld => ?_)
          clear hK K
          have hB := hB.at gg (World.block_lt_of_cell? U21 _ hB.c0)
          have hDV' : w12.heap.size ≤ U22.heap.size := Nat.le_trans hDV gg.size
          have hlo : w12.heap.size ≤ U21.heap.size := hDV
          have hle : U22.heap.size ≤ U22.heap.size := Nat.le_refl _
          have hpos : U22.heap.size ≤ ab ∨ ab + 1 ≤ U21.heap.size := .inr hAb
          obtain ⟨lo, hlo'⟩ : ∃ lo, U21.heap.size = lo := ⟨_, rfl⟩
          obtain ⟨hi, hhi'⟩ : ∃ hi, U22.heap.size = hi := ⟨_, rfl⟩
          have hle : hi ≤ U22.heap.size := Nat.le_of_eq hhi'.symm
          rw [hlo', hhi'] at y3
          rw [hlo'] at hlo
          rw [hlo', hhi'] at hpos
          clear hlo' hhi'
          clear gg hDV
          have hDV := hDV'
          clear hDV'
          try simp only [Act.put]
          try simp only [List.setIfInBounds_toArray]
          try simp only [List.set]
          have T : Turned ab (ab + 1) U22 (((U22.setCell ⟨ab, 0, none⟩ (.int .i64 q)).setCell ⟨ab, 1, none⟩ (.slice p3 m c3)).setCell ⟨ab, 2, none⟩ (.slice r3 m2 d3)) := (((Turned.refl _ _ U22).setCell (p := ⟨ab, 0, none⟩) (Nat.le_refl _) (Nat.lt_succ_self _) _).setCell (p := ⟨ab, 1, none⟩) (Nat.le_refl _) (Nat.lt_succ_self _) _).setCell (p := ⟨ab, 2, none⟩) (Nat.le_refl _) (Nat.lt_succ_self _) _
          have hAb : ab < U22.heap.size := World.block_lt_of_cell? U22 _ hB.c0
          obtain ⟨a0, a1, a2, f0, f1, f2⟩ := hB
          refine wpAnyH_ready (rs := [6]) (by kernel_rfl) (by simp) ?_
          refine AllReadyH.cons rfl (fun K hK => ?_) AllReadyH.nil
          go_simp
          refine hK.out _ _ (hHeld.turned T hab hDV hbB) (fun hHeld => ?_)
          clear hK K
          try simp only [Act.put]
          try simp only [List.setIfInBounds_toArray]
          try simp only [List.set]
          refine wpAnyH_done (by kernel_rfl) ?_ _
          have b3 : RsE (((U22.setCell ⟨ab, 0, none⟩ (.int .i64 q)).setCell ⟨ab, 1, none⟩ (.slice p3 m c3)).setCell ⟨ab, 2, none⟩ (.slice r3 m2 d3)) ab q p3 m c3 r3 m2 d3 := ⟨by simp [go_sem, a0], by simp [go_sem, a1], by simp [go_sem, a2]⟩
          have y3 := y3.turned T hpos
          have hsz : hi ≤ (((U22.setCell ⟨ab, 0, none⟩ (.int .i64 q)).setCell ⟨ab, 1, none⟩ (.slice p3 m c3)).setCell ⟨ab, 2, none⟩ (.slice r3 m2 d3)).heap.size := by rw [World.size_setCell, World.size_setCell, World.size_setCell]; exact hle
          go_wp2_with fail
          go_meet
          case rel => exact ⟨ab, p3, c3, r3, d3, lo, hi, rfl, hHeld.g, b3, y3, hlo, hsz, hab⟩
      · have gg : Below D0.heap.size D0 (D0.alloc (.cells #[.int .i64 0, .slice none 0 0, .slice none 0 0] 62)) := by go_grown
        have hab : w12.heap.size ≤ D0.heap.size := hDV
        have hB : Rc3 (D0.alloc (.cells #[.int .i64 0, .slice none 0 0, .slice none 0 0] 62)) D0.heap.size := ⟨by simp [go_sem], by simp [go_sem], by simp [go_sem], by simp [go_sem], by simp [go_sem], by simp [go_sem]⟩
        have hDV : w12.heap.size ≤ (D0.alloc (.cells #[.int .i64 0, .slice none 0 0, .slice none 0 0] 62)).heap.size := Nat.le_trans hDV gg.size
        go_simp
        refine hK.out _ _ (hHeld.up gg) (fun hHeld => ?_)
        clear hK K
        clear gg
        generalize D0.alloc (.cells #[.int .i64 0, .slice none 0 0, .slice none 0 0] 62) = U23 at hHeld hB hDV ⊢
        generalize D0.heap.size = ab at hB hab  ⊢
        try simp only [Act.put]
        try simp only [List.setIfInBounds_toArray]
        try simp only [List.set]
        refine wpAnyH_ready (rs := [1]) (by kernel_rfl) (by simp) ?_
        refine AllReadyH.cons rfl (fun K hK => ?_) AllReadyH.nil
        go_simp
        go_wp2_with (go_at_call 24; refine (HT.out _ hHeld.g).mono ?_; rintro e U24 ⟨rfl, gg, n1⟩)
        refine hK.out _ _ (hHeld.up gg) (fun hHeld => ?_)
        clear hK K
        have hB := hB.at gg (World.block_lt_of_cell? U23 _ hB.c0)
        have hDV' : w12.heap.size ≤ U24.heap.size := Nat.le_trans hDV gg.size
        clear gg hDV
        have hDV := hDV'
        clear hDV'
        generalize U23.heap.size = lb at n1 ⊢
        try simp only [Act.put]
        try simp only [List.setIfInBounds_toArray]
        try simp only [List.set]
        refine wpAnyH_ready (rs := [3]) (by kernel_rfl) (by simp) ?_
        refine AllReadyH.cons rfl (fun K hK => ?_) AllReadyH.nil
        go_simp
        go_wp2_with (go_at_call 33; refine (HTr.out _ hHeld.g).mono ?_; rintro e U25 ⟨rb, rfl, gg, rr⟩)
        refine hK.out _ _ (hHeld.up gg) (fun hHeld => ?_)
        clear hK K
        have n1 := n1.below gg (Nat.le_refl _)
        have hB := hB.at gg (World.block_lt_of_cell? U24 _ hB.c0)
        have hDV' : w12.heap.size ≤ U25.heap.size := Nat.le_trans hDV gg.size
        clear gg hDV
        have hDV := hDV'
        clear hDV'
        try simp only [Act.put]
        try simp only [List.setIfInBounds_toArray]
        try simp only [List.set]
        refine wpAnyH_ready (rs := [4]) (by kernel_rfl) (by simp) ?_
        refine AllReadyH.cons rfl (fun K hK => ?_) AllReadyH.nil
        have hAb : ab < U25.heap.size := World.block_lt_of_cell? U25 _ hB.c0
        go_simp
        go_wp2_with (go_at_call 34; refine (HImpl.out _ _ _ n1 rr).mono ?_; rintro e U26 ⟨p3, c3, r3, d3, rfl, gg, y3⟩)
        refine hK.out _ _ (hHeld.up gg) (fun hHeld => ?_)
        clear hK K
        have hB := hB.at gg (World.block_lt_of_cell? U25 _ hB.c0)
        have hDV' : w12.heap.size ≤ U26.heap.size := Nat.le_trans hDV gg.size
        have hlo : w12.heap.size ≤ U25.heap.size := hDV
        have hle : U26.heap.size ≤ U26.heap.size := Nat.le_refl _
        have hpos : U26.heap.size ≤ ab ∨ ab + 1 ≤ U25.heap.size := .inr hAb
        obtain ⟨lo, hlo'⟩ : ∃ lo, U25.heap.size = lo := ⟨_, rfl⟩
        obtain ⟨hi, hhi'⟩ : ∃ hi, U26.heap.size = hi := ⟨_, rfl⟩
        have hle : hi ≤ U26.heap.size := Nat.le_of_eq hhi'.symm
        rw [hlo', hhi'] at y3
        rw [hlo'] at hlo
        rw [hlo', hhi'] at hpos
        clear hlo' hhi'
        clear gg hDV
        have hDV := hDV'
        clear hDV'
        try simp only [Act.put]
        try simp only [List.setIfInBounds_toArray]
        try simp only [List.set]
        have T : Turned ab (ab + 1) U26 (((U26.setCell ⟨ab, 0, none⟩ (.int .i64 q)).setCell ⟨ab, 1, none⟩ (.slice p3 m c3)).setCell ⟨ab, 2, none⟩ (.slice r3 m2 d3)) := (((Turned.refl _ _ U26).setCell (p := ⟨ab, 0, none⟩) (Nat.le_refl _) (Nat.lt_succ_self _) _).setCell (p := ⟨ab, 1, none⟩) (Nat.le_refl _) (Nat.lt_succ_self _) _).setCell (p := ⟨ab, 2, none⟩) (Nat.le_refl _) (Nat.lt_succ_self _) _
        have hAb : ab < U26.heap.size := World.block_lt_of_cell? U26 _ hB.c0
        obtain ⟨a0, a1, a2, f0, f1, f2⟩ := hB
        refine wpAnyH_ready (rs := [6]) (by kernel_rfl) (by simp) ?_
        refine AllReadyH.cons rfl (fun K hK => ?_) AllReadyH.nil
        go_simp
        refine hK.out _ _ (hHeld.turned T hab hDV hbB) (fun hHeld => ?_)
        clear hK K
        try simp only [Act.put]
        try simp only [List.setIfInBounds_toArray]
        try simp only [List.set]
        refine wpAnyH_done (by kernel_rfl) ?_ _
        have b3 : RsE (((U26.setCell ⟨ab, 0, none⟩ (.int .i64 q)).setCell ⟨ab, 1, none⟩ (.slice p3 m c3)).setCell ⟨ab, 2, none⟩ (.slice r3 m2 d3)) ab q p3 m c3 r3 m2 d3 := ⟨by simp [go_sem, a0], by simp [go_sem, a1], by simp [go_sem, a2]⟩
        have y3 := y3.turned T hpos
        have hsz : hi ≤ (((U26.setCell ⟨ab, 0, none⟩ (.int .i64 q)).setCell ⟨ab, 1, none⟩ (.slice p3 m c3)).setCell ⟨ab, 2, none⟩ (.slice r3 m2 d3)).heap.size := by rw [World.size_setCell, World.size_setCell, World.size_setCell]; exact hle
        go_wp2_with fail
        go_meet
        case rel => exact ⟨ab, p3, c3, r3, d3, lo, hi, rfl, hHeld.g, b3, y3, hlo, hsz, hab⟩
    case rest =>
      obtain ⟨b14, a14, c14, a15, c15, lo14, hi14, rfl, g14', C14, s14, -, -, -⟩ := hcut
      have C3 := C3.below g14'
      have C5 := C5.below g14'
      have s3 := s3.below g14'
      have s5 := s5.below g14'
      have g14 := gB.trans (g14'.mono gB.size)
      clear g14' gB hbB
      have hcon := eqEd_same q a14 a15 a3 a4 m m2 c14 c15 c3 c4 es qs _ _ _ _ wc HM.out HM2.out HB.out.1 HB.out.2 s14 s3
      obtain ⟨x0, x1, x2⟩ := C3
      obtain ⟨z0, z1, z2⟩ := C14
      go_wp2_with (go_at_call 35; refine hcon.mono ?_)
      rintro e w15 ⟨rfl, g15⟩
      have C5 := C5.below g15
      have s5 := s5.below g15
      have g15 := g14.trans (g15.mono g14.size)
      clear g14 x0 x1 x2 z0 z1 z2 hcon s14 s3
      obtain ⟨y0, y1, y2⟩ := C5
      have hcon := heldEd_any q a5 a6 m m2 c5 c6 es qs b9 b5 w15 HM.out HM2.out HB.out.1 HB.out.2 s5
      rw [HMM.out] at hcon
      go_wp2_with (go_at_call 39; refine hcon.mono ?_)
      rintro e w16 ⟨rfl, g16⟩
      have g16 := g15.trans (g16.mono g15.size)
      clear g15 hcon y0 y1 y2
      go_wp2_with fail
      go_ret
      exact ⟨rfl, gY.trans (g16.mono gY.size)⟩
end Go.Proofs.Yteebbaleejbodaa
