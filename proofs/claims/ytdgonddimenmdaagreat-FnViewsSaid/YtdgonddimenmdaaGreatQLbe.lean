/-
  The model's l6Bent: pages, right ones or nearly so.
-/
import Derived.Test.YtdgonddimenmdaaGreatQLph
import Derived.Test.YtdgonddimenmdaaGreatQRgh

namespace Go.Proofs.YtdgonddimenmdaaGreat
open Go.RowKit
set_option linter.unusedVariables false
set_option maxRecDepth 20000

/-- What l6Bent hands back: two pages that may be read, or thirteen. -/
def LbPost (b : Nat) (a : Option Addr) (n c : Nat) (zs : List Int) (i : Int) (w : World) (e : Ending) (w' : World) : Prop :=
  ∃ pg m ps, e = .returned (.slice (some ⟨pg, 0, none⟩) m m) ∧ List.length ps = m ∧ (m = 2 ∨ m = 13) ∧ (∀ W, Turned b (b + 1) w' W → PgRead W (some ⟨pg, 0, none⟩) ps) ∧ PgOk ps ∧ Turned b (b + 1) w w' ∧ ∃ j, j ≤ i + 400 ∧ SrcAt w' b a n c zs j

theorem lb_two {b : Nat} {a : Option Addr} {n c : Nat} {zs : List Int} {i j : Int} {w w' : World} {pg g0 d0 g1 d1 : Nat} {y0 y1 : List Int} (P : Pg2 w.heap.size pg g0 d0 g1 d1 y0 y1 w') (T : Turned b (b + 1) w w') (hS : SrcAt w' b a n c zs j) (hj : j ≤ i + 400) (hb : b < w.heap.size) : LbPost b a n c zs i w (.returned (.slice (some ⟨pg, 0, none⟩) 2 2)) w' :=
  ⟨pg, 2, [y0, y1], rfl, rfl, .inl rfl, fun _ hW => (P.src hW hb).read.1, P.read.2, T, j, hj, hS⟩

theorem infoBs' : (Tryz.prog.info? 22).map (fun i => (i.zero, i.size, i.bytes)) = some (some (.slice none 0 0), 1, 24) := by kernel_rfl
theorem infoBs : ∃ i, Tryz.prog.info? 22 = some i ∧ i.zero = some (.slice none 0 0) ∧ i.size = 1 ∧ i.bytes = 24 := by
  have h := infoBs'
  cases hi : Tryz.prog.info? 22 with
  | none => rw [hi] at h; simp at h
  | some i => rw [hi] at h; simp at h; exact ⟨i, rfl, h⟩
def nilE (_ : Unit) : List Value := [.slice none 0 0]
theorem nils13 {w : World} {base e g : Nat} (h : w.ownsRow base e 1 (.slice (some ⟨g, 0, none⟩) 13 13) 13 (madeCells (Value.slice none 0 0).cells (13 * 1)).toList) : ∀ k, k < 13 → w.cell? ⟨g, 0 + k, none⟩ = some (.slice none 0 0) := by
  intro k hk
  have h' : w.ownsRow base e 1 (.slice (some ⟨g, 0, none⟩) 13 13) (List.replicate 13 ()).length (flat nilE (List.replicate 13 ())) := by
    have e1 : flat nilE (List.replicate 13 ()) = (madeCells (Value.slice none 0 0).cells (13 * 1)).toList := by kernel_rfl
    rw [e1]
    exact h
  obtain ⟨a, c, ea, _, hin, _⟩ := SlIn.ofRow (fun _ => rfl) h'
  cases ea
  rcases hin.reads with h0 | ⟨b, off, e0, hc⟩
  · exact absurd h0 (by decide)
  · simp only [Option.some.injEq, Addr.mk.injEq, and_true] at e0
    obtain ⟨rfl, rfl⟩ := e0
    have := hc k () (by rw [List.getElem?_replicate, if_pos hk]) 0 (.slice none 0 0) rfl
    simpa using this

set_option maxHeartbeats 8000000 in
theorem l6Bent_any (b : Nat) (a : Option Addr) (n c : Nat) (zs : List Int) (i : Int) (w : World) (h : SrcAt w b a n c zs i) (i9 : i ≤ 400) :
    Calls Tryz.prog 15 #[.pointer (some ⟨b, 0, none⟩)] w fun e w' => LbPost b a n c zs i w e w' := by
  have hlb := h.lt
  have hi0 := h.i0
  obtain ⟨i0, hi, hz0, hz1, hz2⟩ := infoBs
  go_enter Tryz.func15, Tryz.ntmps15
  go_wp2_with fail
  refine (l6Pages_any b a n c zs i w h (by omega)).mono ?_
  rintro e w1 ⟨pg, g0, d0, g1, d1, y0, y1, rfl, P, T, j, hj, hS⟩
  have hj0 := hS.i0
  go_wp2_with fail
  refine (l1Next_any b a n c zs j 14 _ hS (by omega) (by omega) (by omega)).mono ?_
  rintro e w2 ⟨⟨r, rfl, r0, r1⟩, t2, hS2⟩
  have P := P.src t2 (by omega)
  have T := T.trans t2
  clear t2 hS h
  rcases (show r = 0 ∨ r = 1 ∨ r = 2 ∨ r = 3 ∨ 4 ≤ r by omega) with rfl | rfl | rfl | rfl | h4
  · clear r0 r1
    go_wp2_with fail
    refine (l2Bent_any b a n c zs (j + 1) _ hS2 (by omega)).mono ?_
    rintro e w3 ⟨v, rfl, ⟨g, o, m, d, ys, rfl, hl, hm1, hm64, hmd, hB, hy⟩, t3, j3, hj3, hS3⟩
    have hpl : pg < w2.heap.size := P.lt
    have P := P.src t3 (by omega)
    have hlo := P.lo
    have hgpg : g ≠ pg := by
      rcases hB with h0 | ⟨b', off, e', h1, h2, _⟩
      · rw [h0] at hl; simp at hl; omega
      · simp at e'; omega
    have T := T.trans t3
    clear t3 hS2
    have Ps2 := hS3.setFar (p := ⟨pg, 0, none⟩) (by simp only; omega) (.slice (some ⟨g, o, none⟩) m d)
    have T2 := T.low (w2 := w3.setCell ⟨pg, 0, none⟩ (.slice (some ⟨g, o, none⟩) m d)) (by go_grown)
    have t1 : Turned pg (pg + 1) w3 (w3.setCell ⟨pg, 0, none⟩ (.slice (some ⟨g, o, none⟩) m d)) := (Turned.refl _ _ _).setCell (p := ⟨pg, 0, none⟩) (Nat.le_refl _) (Nat.lt_succ_self _) _
    have p1 := P.p1.src t1 (.inr ⟨rfl, rfl⟩)
    have hB2 := hB.turned t1 (by omega)
    have hgb : b + 1 ≤ w2.heap.size := by omega
    have c1' : (w3.setCell ⟨pg, 0, none⟩ (.slice (some ⟨g, o, none⟩) m d)).cell? ⟨pg, 1, none⟩ = some (.slice (some ⟨g1, 0, none⟩) 64 d1) := by simp [go_sem, P.c1]
    have c0' : (w3.setCell ⟨pg, 0, none⟩ (.slice (some ⟨g, o, none⟩) m d)).cell? ⟨pg, 0, none⟩ = some (.slice (some ⟨g, o, none⟩) m d) := by simp [go_sem, P.c0]
    obtain ⟨c0, c1, _, _, hfz, _⟩ := P
    have f0 := hfz 0
    have HP : Hid (LbPost b a n c zs i w (.returned (.slice (some ⟨pg, 0, none⟩) 2 2)) (w3.setCell ⟨pg, 0, none⟩ (.slice (some ⟨g, o, none⟩) m d))) := by
      refine ⟨pg, 2, [ys, y1], rfl, rfl, .inl rfl, fun W hW => .inr ⟨pg, 0, rfl, fun k z hz => ?_⟩, fun z hz => ?_, T2, _, by omega, Ps2⟩
      · match k, hz with
        | 0, hz => simp at hz; subst hz; exact ⟨_, d, by rw [hl]; exact hW.cell c0' (.inr (show b + 1 ≤ pg by omega)), by rw [hl]; exact hmd, (hB2.turned hW (.inr hgb)).reads⟩
        | 1, hz => simp at hz; subst hz; exact ⟨_, d1, by rw [p1.len]; exact hW.cell c1' (.inr (show b + 1 ≤ pg by omega)), by rw [p1.len]; exact p1.dd, (p1.src hW (.inl (by omega))).rd⟩
      · simp at hz
        rcases hz with rfl | rfl
        · exact ⟨by omega, hy⟩
        · exact ⟨by rw [p1.len]; omega, p1.fine.pg.bd⟩
    clear c0' c1' Ps2 T2 t1 p1 hB2 hB hy hS3 T
    go_wp2_with fail
    go_ret
    exact HP.out
  · clear r0 r1
    go_wp2_with (at_make; refine wpList_make_full _ rfl _ _ 24 rfl w2.heap.size 22 i0 (.slice none 0 0) 1 Tryz.underlying24 hi hz0 hz1 .i64 .i64 _ _ 13 rfl rfl rfl rfl ?c1 ?c2 (Nat.le_refl _) ?_)
    case c1 => rw [hz2]; omega
    case c2 => unfold maxLen; omega
    intro w3 hown hg
    have hB : Below w2.heap.size w2 w3 := Below.grown (Below.refl _ _) hg (Nat.le_refl _) (fun k hk => by cases hk)
    have hcl := nils13 hown
    have hS5 := hS2.below hB
    have T5 := T.trans (Turned.ofBelow hB)
    have hb2 : b + 1 ≤ w2.heap.size := by have := T.size; omega
    clear hown hg hB hS2 T P
    go_wp2_with fail
    go_ret
    refine ⟨w2.heap.size, 13, List.replicate 13 [], rfl, rfl, .inr rfl, fun W hW => .inr ⟨w2.heap.size, 0, rfl, fun k z hz => ?_⟩, fun z hz => ?_, T5, _, by omega, hS5⟩
    · have hk := (List.getElem?_eq_some_iff.1 hz).1
      rw [List.length_replicate] at hk
      have hz := (List.mem_replicate.1 (List.mem_of_getElem? hz)).2
      subst hz
      exact ⟨none, 0, hW.cell (hcl k hk) (.inr hb2), Nat.le_refl _, .inl rfl⟩
    · have hz := (List.mem_replicate.1 hz).2
      subst hz
      exact ⟨by simp, by simp⟩
  · clear r0 r1
    go_upto_region 8 with (fail)
    refine wp_region_held_drew (S := Pg2 w.heap.size pg g0 d0 g1 d1 y0 y1) (by kernel_rfl) (P.below ⟨rfl, rfl, rfl, Nat.le_refl _, fun _ _ => rfl⟩) (fun hHeld => ?_)
    have hS := hS2.below (show Below w2.heap.size w2 w2.drew from ⟨rfl, rfl, rfl, Nat.le_refl _, fun _ _ => rfl⟩)
    have T := T.trans (Turned.ofBelow (show Below w2.heap.size w2 w2.drew from ⟨rfl, rfl, rfl, Nat.le_refl _, fun _ _ => rfl⟩))
    generalize World.drew _ = D at hHeld hS T ⊢
    clear P hS2
    refine wpAnyH_take (i := 0) (v := ?v1) rfl (by kernel_rfl) (by kernel_rfl) (by kernel_rfl) (fun _ _ _ h => h) (Or.inl ⟨by kernel_rfl, ?h1⟩) hHeld ?_
    case h1 => intro u hSw; (obtain ⟨c0, c1, -, -, -, -⟩ := hSw); go_simp; try with_reducible rfl
    try simp only [List.getElem_toArray]
    try simp only [List.getElem_cons_succ]
    try simp only [List.getElem_cons_zero]
    try simp only [Act.put]
    try simp only [List.setIfInBounds_toArray]
    try simp only [List.set]
    refine wpAnyH_take (i := 1) (v := ?v2) rfl (by kernel_rfl) (by kernel_rfl) (by kernel_rfl) (fun _ _ _ h => h) (Or.inl ⟨by kernel_rfl, ?h2⟩) hHeld ?_
    case h2 => intro u hSw; (obtain ⟨c0, c1, -, -, -, -⟩ := hSw); go_simp; try with_reducible rfl
    try simp only [List.getElem_toArray]
    try simp only [List.getElem_cons_succ]
    try simp only [List.getElem_cons_zero]
    try simp only [Act.put]
    try simp only [List.setIfInBounds_toArray]
    try simp only [List.set]
    refine wpAnyH_take (i := 2) (v := ?v3) rfl (by kernel_rfl) (by kernel_rfl) (by kernel_rfl) (fun _ _ _ h => h) (Or.inl ⟨by kernel_rfl, ?h3⟩) hHeld ?_
    case h3 => intro u hSw; (obtain ⟨c0, c1, -, -, -, -⟩ := hSw); go_simp; try with_reducible rfl
    try simp only [List.getElem_toArray]
    try simp only [List.getElem_cons_succ]
    try simp only [List.getElem_cons_zero]
    try simp only [Act.put]
    try simp only [List.setIfInBounds_toArray]
    try simp only [List.set]
    refine wpAnyH_take (i := 3) (v := ?v4) rfl (by kernel_rfl) (by kernel_rfl) (by kernel_rfl) (fun _ _ _ h => h) (Or.inl ⟨by kernel_rfl, ?h4⟩) hHeld ?_
    case h4 => intro u hSw; (obtain ⟨c0, c1, -, -, -, -⟩ := hSw); go_simp; try with_reducible rfl
    try simp only [List.getElem_toArray]
    try simp only [List.getElem_cons_succ]
    try simp only [List.getElem_cons_zero]
    try simp only [Act.put]
    try simp only [List.setIfInBounds_toArray]
    try simp only [List.set]
    refine wpAnyH_take (i := 5) (v := ?v5) rfl (by kernel_rfl) (by kernel_rfl) (by kernel_rfl) (fun _ _ _ h => h) (Or.inl ⟨by kernel_rfl, ?h5⟩) hHeld ?_
    case h5 => intro u hSw; (obtain ⟨c0, c1, -, -, -, -⟩ := hSw); go_simp; try with_reducible rfl
    try simp only [List.getElem_toArray]
    try simp only [List.getElem_cons_succ]
    try simp only [List.getElem_cons_zero]
    try simp only [Act.put]
    try simp only [List.setIfInBounds_toArray]
    try simp only [List.set]
    refine wpAnyH_ready (rs := [4]) (by kernel_rfl) (by simp) ?_
    refine AllReadyH.cons rfl (fun K hK => ?_) AllReadyH.nil
    go_simp
    go_wp2_with fail
    refine (l1Next_any b a n c zs (j + 1) 2 _ hS (by omega) (by omega) (by omega)).mono ?_
    rintro e D1 ⟨⟨p, rfl, p0, p1⟩, t3, hS3⟩
    refine hK.out _ _ (hHeld.src t3 (by omega)) (fun hHeld => ?_)
    clear hK K
    try simp only [Act.put]
    try simp only [List.setIfInBounds_toArray]
    try simp only [List.set]
    have T := T.trans t3
    clear t3 hS
    refine wpAnyH_ready (rs := [6]) (by kernel_rfl) (by simp) ?_
    refine AllReadyH.cons rfl (fun K hK => ?_) AllReadyH.nil
    go_simp
    go_wp2_with fail
    refine (l1Next_any b a n c zs (j + 1 + 1) 3 _ hS3 (by omega) (by omega) (by omega)).mono ?_
    rintro e D2 ⟨⟨s, rfl, s0, s1⟩, t3, hS4⟩
    refine hK.out _ _ (hHeld.src t3 (by omega)) (fun hHeld => ?_)
    clear hK K
    try simp only [Act.put]
    try simp only [List.setIfInBounds_toArray]
    try simp only [List.set]
    have T := T.trans t3
    clear t3 hS3
    refine wpAnyH_ready (rs := [7]) (by kernel_rfl) (by simp) ?_
    refine AllReadyH.cons rfl (fun K hK => ?_) AllReadyH.nil
    go_simp
    go_wp2_with fail
    refine (l1Stub_wide p s _ (by omega) (by omega) (by omega) (by omega)).mono ?_
    rintro e D3 ⟨rfl, gb, hcb⟩
    refine hK.out _ _ (hHeld.below gb) (fun hHeld => ?_)
    clear hK K
    try simp only [Act.put]
    try simp only [List.setIfInBounds_toArray]
    try simp only [List.set]
    have T := T.trans (Turned.ofBelow gb)
    have hS := hS4.below gb
    clear gb hS4
    generalize D2.heap.size = cg at hcb ⊢
    have hE1 := T.size
    have hE1p := hHeld.lt
    refine wpAnyH_ready (rs := [8]) (by kernel_rfl) (by simp) ?_
    refine AllReadyH.cons rfl (fun K hK => ?_) AllReadyH.nil
    go_simp
    go_wp2_with fail
    refine (l2Put_of (some ⟨g0, 0, none⟩) y0 [1, p, s] d0 cg 0 3 _ _ hHeld.p0.rd hHeld.p0.fine rfl (by omega) (by omega) (by intro z hz; simp at hz; omega) hcb.reads).mono ?_
    rintro e D4 ⟨gb, hor⟩
    have T := T.trans (Turned.ofBelow gb)
    have hS := hS.below gb
    rcases hor with ⟨q, hq, rfl⟩ | ⟨mg, md, my, ms, rfl, hmd, hmg, hM, hMF, hms0, hms1⟩
    · refine hK.out _ _ (hHeld.below gb) (fun hHeld => ?_)
      clear hK K
      try simp only [Act.put]
      try simp only [List.setIfInBounds_toArray]
      try simp only [List.set]
      clear gb hcb
      refine wpAnyH_take (i := 9) (v := ?v6) rfl (by kernel_rfl) (by kernel_rfl) (by kernel_rfl) (fun _ _ _ h => h) (Or.inl ⟨by kernel_rfl, ?h6⟩) hHeld ?_
      case h6 => intro u hSw; clear hSw; go_simp; try with_reducible rfl
      try simp only [List.getElem_toArray]
      try simp only [List.getElem_cons_succ]
      try simp only [List.getElem_cons_zero]
      try simp only [Act.put]
      try simp only [List.setIfInBounds_toArray]
      try simp only [List.set]
      refine wpAnyH_take (i := 10) (v := ?v7) rfl (by kernel_rfl) (by kernel_rfl) (by kernel_rfl) (fun _ _ _ h => h) (Or.inl ⟨by kernel_rfl, ?h7⟩) hHeld ?_
      case h7 => intro u hSw; clear hSw; go_simp; try with_reducible rfl
      try simp only [List.getElem_toArray]
      try simp only [List.getElem_cons_succ]
      try simp only [List.getElem_cons_zero]
      try simp only [Act.put]
      try simp only [List.setIfInBounds_toArray]
      try simp only [List.set]
      refine wpAnyH_take (i := 11) (v := ?v8) rfl (by kernel_rfl) (by kernel_rfl) (by kernel_rfl) (fun _ _ _ h => h) (Or.inl ⟨by kernel_rfl, ?h8⟩) hHeld ?_
      case h8 => intro u hSw; clear hSw; go_simp; try with_reducible rfl
      try simp only [List.getElem_toArray]
      try simp only [List.getElem_cons_succ]
      try simp only [List.getElem_cons_zero]
      try simp only [Act.put]
      try simp only [List.setIfInBounds_toArray]
      try simp only [List.set]
      refine wpAnyH_take (i := 12) (v := ?v9) rfl (by kernel_rfl) (by kernel_rfl) (by kernel_rfl) (fun _ _ _ h => h) (Or.inl ⟨by kernel_rfl, ?h9⟩) hHeld ?_
      case h9 => intro u hSw; clear hSw; go_simp; try with_reducible rfl
      try simp only [List.getElem_toArray]
      try simp only [List.getElem_cons_succ]
      try simp only [List.getElem_cons_zero]
      try simp only [Act.put]
      try simp only [List.setIfInBounds_toArray]
      try simp only [List.set]
      refine wpAnyH_take (i := 13) (v := ?v10) rfl (by kernel_rfl) (by kernel_rfl) (by kernel_rfl) (fun _ _ _ h => h) (Or.inl ⟨by kernel_rfl, ?h10⟩) hHeld ?_
      case h10 => intro u hSw; clear hSw; go_simp; try with_reducible rfl
      try simp only [List.getElem_toArray]
      try simp only [List.getElem_cons_succ]
      try simp only [List.getElem_cons_zero]
      try simp only [Act.put]
      try simp only [List.setIfInBounds_toArray]
      try simp only [List.set]
      refine wpAnyH_take (i := 14) (v := ?v11) rfl (by kernel_rfl) (by kernel_rfl) (by kernel_rfl) (fun _ _ _ h => h) (Or.inl ⟨by kernel_rfl, ?h11⟩) hHeld ?_
      case h11 => intro u hSw; clear hSw; go_simp; try with_reducible rfl
      try simp only [List.getElem_toArray]
      try simp only [List.getElem_cons_succ]
      try simp only [List.getElem_cons_zero]
      try simp only [Act.put]
      try simp only [List.setIfInBounds_toArray]
      try simp only [List.set]
      refine wpAnyH_take (i := 15) (v := ?v12) rfl (by kernel_rfl) (by kernel_rfl) (by kernel_rfl) (fun _ _ _ h => h) (Or.inl ⟨by kernel_rfl, ?h12⟩) hHeld ?_
      case h12 => intro u hSw; clear hSw; go_simp; try with_reducible rfl
      try simp only [List.getElem_toArray]
      try simp only [List.getElem_cons_succ]
      try simp only [List.getElem_cons_zero]
      try simp only [Act.put]
      try simp only [List.setIfInBounds_toArray]
      try simp only [List.set]
      refine wpAnyH_done (by kernel_rfl) ?_ _
      have dq : (q == 0) = false := by simpa using hq
      go_wp2_with fail
      go_ret
      exact lb_two hHeld T hS (by omega) hlb
    · refine hK.out _ _ (hHeld.below gb) (fun hHeld => ?_)
      clear hK K
      try simp only [Act.put]
      try simp only [List.setIfInBounds_toArray]
      try simp only [List.set]
      have P0 : PgN w.heap.size pg mg md my D4 := ⟨hM.len, hMF, (hM.bytes (Nat.le_refl _) hM.lt).reads, hmd, by omega, by omega, hM.lt⟩
      clear gb hcb hM hmg hMF hE1p
      refine wpAnyH_take (i := 9) (v := ?v13) rfl (by kernel_rfl) (by kernel_rfl) (by kernel_rfl) (fun _ _ _ h => h) (Or.inl ⟨by kernel_rfl, ?h13⟩) hHeld ?_
      case h13 => intro u hSw; clear hSw; go_simp; try with_reducible rfl
      try simp only [List.getElem_toArray]
      try simp only [List.getElem_cons_succ]
      try simp only [List.getElem_cons_zero]
      try simp only [Act.put]
      try simp only [List.setIfInBounds_toArray]
      try simp only [List.set]
      refine wpAnyH_take (i := 10) (v := ?v14) rfl (by kernel_rfl) (by kernel_rfl) (by kernel_rfl) (fun _ _ _ h => h) (Or.inl ⟨by kernel_rfl, ?h14⟩) hHeld ?_
      case h14 => intro u hSw; clear hSw; go_simp; try with_reducible rfl
      try simp only [List.getElem_toArray]
      try simp only [List.getElem_cons_succ]
      try simp only [List.getElem_cons_zero]
      try simp only [Act.put]
      try simp only [List.setIfInBounds_toArray]
      try simp only [List.set]
      refine wpAnyH_take (i := 11) (v := ?v15) rfl (by kernel_rfl) (by kernel_rfl) (by kernel_rfl) (fun _ _ _ h => h) (Or.inl ⟨by kernel_rfl, ?h15⟩) hHeld ?_
      case h15 => intro u hSw; clear hSw; go_simp; try with_reducible rfl
      try simp only [List.getElem_toArray]
      try simp only [List.getElem_cons_succ]
      try simp only [List.getElem_cons_zero]
      try simp only [Act.put]
      try simp only [List.setIfInBounds_toArray]
      try simp only [List.set]
      refine wpAnyH_take (i := 12) (v := ?v16) rfl (by kernel_rfl) (by kernel_rfl) (by kernel_rfl) (fun _ _ _ h => h) (Or.inl ⟨by kernel_rfl, ?h16⟩) hHeld ?_
      case h16 => intro u hSw; clear hSw; go_simp; try with_reducible rfl
      try simp only [List.getElem_toArray]
      try simp only [List.getElem_cons_succ]
      try simp only [List.getElem_cons_zero]
      try simp only [Act.put]
      try simp only [List.setIfInBounds_toArray]
      try simp only [List.set]
      refine wpAnyH_take (i := 13) (v := ?v17) rfl (by kernel_rfl) (by kernel_rfl) (by kernel_rfl) (fun _ _ _ h => h) (Or.inl ⟨by kernel_rfl, ?h17⟩) hHeld ?_
      case h17 => intro u hSw; clear hSw; go_simp; try with_reducible rfl
      try simp only [List.getElem_toArray]
      try simp only [List.getElem_cons_succ]
      try simp only [List.getElem_cons_zero]
      try simp only [Act.put]
      try simp only [List.setIfInBounds_toArray]
      try simp only [List.set]
      refine wpAnyH_take (i := 14) (v := ?v18) rfl (by kernel_rfl) (by kernel_rfl) (by kernel_rfl) (fun _ _ _ h => h) (Or.inl ⟨by kernel_rfl, ?h18⟩) hHeld ?_
      case h18 => intro u hSw; clear hSw; go_simp; try with_reducible rfl
      try simp only [List.getElem_toArray]
      try simp only [List.getElem_cons_succ]
      try simp only [List.getElem_cons_zero]
      try simp only [Act.put]
      try simp only [List.setIfInBounds_toArray]
      try simp only [List.set]
      refine wpAnyH_take (i := 15) (v := ?v19) rfl (by kernel_rfl) (by kernel_rfl) (by kernel_rfl) (fun _ _ _ h => h) (Or.inl ⟨by kernel_rfl, ?h19⟩) hHeld ?_
      case h19 => intro u hSw; clear hSw; go_simp; try with_reducible rfl
      try simp only [List.getElem_toArray]
      try simp only [List.getElem_cons_succ]
      try simp only [List.getElem_cons_zero]
      try simp only [Act.put]
      try simp only [List.setIfInBounds_toArray]
      try simp only [List.set]
      refine wpAnyH_done (by kernel_rfl) ?_ _
      have Q := hHeld.set0 P0
      have hlo := hHeld.lo
      have Ps2 := hS.setFar (p := ⟨pg, 0, none⟩) (by simp only; omega) (.slice (some ⟨mg, 0, none⟩) 64 md)
      have T2 := T.low (w2 := D4.setCell ⟨pg, 0, none⟩ (.slice (some ⟨mg, 0, none⟩) 64 md)) (by go_grown)
      obtain ⟨c0, c1, _, _, hfz, _⟩ := hHeld
      have f0 := hfz 0
      clear T hS P0 hE1
      go_wp2_with fail
      go_ret
      exact lb_two Q T2 Ps2 (by omega) hlb
  · clear r0 r1
    go_wp2_with fail
    refine (l1Draw_any b a n c zs (j + 1) _ hS2 (by omega)).mono ?_
    rintro e w3 ⟨⟨xt, xk, xv, xs, rfl, hxt, hxk, hxv, hxs⟩, t3, hS3⟩
    have P := P.src t3 (by omega)
    have T := T.trans t3
    clear t3 hS2
    go_upto_region 13 with (fail)
    generalize hY : World.alloc _ _ = Y
    have gY : Below w3.heap.size w3 Y := by rw [← hY]; go_grown
    have R : RowC Y w3.heap.size 0 ⟨xt, xk, xv, xs⟩ := by rw [← hY]; exact ⟨by simp [go_sem], by simp [go_sem], by simp [go_sem], by simp [go_sem]⟩
    have P := P.below gY
    have T := T.trans (Turned.ofBelow gY)
    have hS := hS3.below gY
    clear hY gY hS3
    generalize w3.heap.size = rb at R ⊢
    have dr : ∀ V : World, Below V.heap.size V V.drew := fun V => ⟨rfl, rfl, rfl, Nat.le_refl _, fun _ _ => rfl⟩
    refine wp_region_held_drew (S := fun V => Pg2 w.heap.size pg g0 d0 g1 d1 y0 y1 V ∧ RowC V rb 0 ⟨xt, xk, xv, xs⟩) (by kernel_rfl) ⟨P.below (dr _), R.below (dr _) (World.block_lt_of_cell? _ _ R.c0)⟩ (fun hHeld => ?_)
    have hS := hS.below (dr _)
    have T := T.trans (Turned.ofBelow (dr _))
    generalize World.drew _ = D at hHeld hS T ⊢
    clear P R dr
    refine wpAnyH_take (i := 0) (v := ?v20) rfl (by kernel_rfl) (by kernel_rfl) (by kernel_rfl) (fun _ _ _ h => h) (Or.inl ⟨by kernel_rfl, ?h20⟩) hHeld ?_
    case h20 => intro u hSw; (obtain ⟨c0, c1, -, -, -, -⟩ := hSw.1); clear hSw; go_simp; try with_reducible rfl
    try simp only [List.getElem_toArray]
    try simp only [List.getElem_cons_succ]
    try simp only [List.getElem_cons_zero]
    try simp only [Act.put]
    try simp only [List.setIfInBounds_toArray]
    try simp only [List.set]
    refine wpAnyH_take (i := 1) (v := ?v21) rfl (by kernel_rfl) (by kernel_rfl) (by kernel_rfl) (fun _ _ _ h => h) (Or.inl ⟨by kernel_rfl, ?h21⟩) hHeld ?_
    case h21 => intro u hSw; (obtain ⟨c0, c1, -, -, -, -⟩ := hSw.1); clear hSw; go_simp; try with_reducible rfl
    try simp only [List.getElem_toArray]
    try simp only [List.getElem_cons_succ]
    try simp only [List.getElem_cons_zero]
    try simp only [Act.put]
    try simp only [List.setIfInBounds_toArray]
    try simp only [List.set]
    refine wpAnyH_take (i := 2) (v := ?v22) rfl (by kernel_rfl) (by kernel_rfl) (by kernel_rfl) (fun _ _ _ h => h) (Or.inl ⟨by kernel_rfl, ?h22⟩) hHeld ?_
    case h22 => intro u hSw; (obtain ⟨c0, c1, -, -, -, -⟩ := hSw.1); clear hSw; go_simp; try with_reducible rfl
    try simp only [List.getElem_toArray]
    try simp only [List.getElem_cons_succ]
    try simp only [List.getElem_cons_zero]
    try simp only [Act.put]
    try simp only [List.setIfInBounds_toArray]
    try simp only [List.set]
    refine wpAnyH_ready (rs := [3]) (by kernel_rfl) (by simp) ?_
    refine AllReadyH.cons rfl (fun K hK => ?_) AllReadyH.nil
    go_simp
    go_wp2_with fail
    refine (l1CellO_any 0 xt xk xv xs rb 0 _ (by omega) (by omega) hxt.1 hxt.2 hxk.1 hxk.2 hxv.1 hxv.2 hxs hHeld.2).mono ?_
    rintro e D3 ⟨cg, cc, rfl, _, gb, hcb⟩
    refine hK.out _ _ (⟨hHeld.1.below gb, hHeld.2.below gb (World.block_lt_of_cell? _ _ hHeld.2.c0)⟩) (fun hHeld => ?_)
    clear hK K
    try simp only [Act.put]
    try simp only [List.setIfInBounds_toArray]
    try simp only [List.set]
    have T := T.trans (Turned.ofBelow gb)
    have hS := hS.below gb
    clear gb
    have hE1 := T.size
    have hE1p := hHeld.1.lt
    refine wpAnyH_ready (rs := [4]) (by kernel_rfl) (by simp) ?_
    refine AllReadyH.cons rfl (fun K hK => ?_) AllReadyH.nil
    go_simp
    go_wp2_with fail
    refine (l2Put_of (some ⟨g1, 0, none⟩) y1 (cellBytes 0 xt xk xv xs) d1 cg 0 (6 + xs.size) _ _ hHeld.1.p1.rd hHeld.1.p1.fine (cellBytes_len _ _ _ _ _) (by omega) (by omega) (cellBytes_rng ⟨hxt, hxk, hxv, hxs⟩ (by omega) (by omega)) hcb.reads).mono ?_
    rintro e D4 ⟨gb, hor⟩
    have T := T.trans (Turned.ofBelow gb)
    have hS := hS.below gb
    rcases hor with ⟨q, hq, rfl⟩ | ⟨mg, md, my, ms, rfl, hmd, hmg, hM, hMF, hms0, hms1⟩
    · refine hK.out _ _ (⟨hHeld.1.below gb, hHeld.2.below gb (World.block_lt_of_cell? _ _ hHeld.2.c0)⟩) (fun hHeld => ?_)
      clear hK K
      try simp only [Act.put]
      try simp only [List.setIfInBounds_toArray]
      try simp only [List.set]
      clear gb hcb
      refine wpAnyH_take (i := 5) (v := ?v23) rfl (by kernel_rfl) (by kernel_rfl) (by kernel_rfl) (fun _ _ _ h => h) (Or.inl ⟨by kernel_rfl, ?h23⟩) hHeld ?_
      case h23 => intro u hSw; clear hSw; go_simp; try with_reducible rfl
      try simp only [List.getElem_toArray]
      try simp only [List.getElem_cons_succ]
      try simp only [List.getElem_cons_zero]
      try simp only [Act.put]
      try simp only [List.setIfInBounds_toArray]
      try simp only [List.set]
      refine wpAnyH_take (i := 6) (v := ?v24) rfl (by kernel_rfl) (by kernel_rfl) (by kernel_rfl) (fun _ _ _ h => h) (Or.inl ⟨by kernel_rfl, ?h24⟩) hHeld ?_
      case h24 => intro u hSw; clear hSw; go_simp; try with_reducible rfl
      try simp only [List.getElem_toArray]
      try simp only [List.getElem_cons_succ]
      try simp only [List.getElem_cons_zero]
      try simp only [Act.put]
      try simp only [List.setIfInBounds_toArray]
      try simp only [List.set]
      refine wpAnyH_take (i := 7) (v := ?v25) rfl (by kernel_rfl) (by kernel_rfl) (by kernel_rfl) (fun _ _ _ h => h) (Or.inl ⟨by kernel_rfl, ?h25⟩) hHeld ?_
      case h25 => intro u hSw; clear hSw; go_simp; try with_reducible rfl
      try simp only [List.getElem_toArray]
      try simp only [List.getElem_cons_succ]
      try simp only [List.getElem_cons_zero]
      try simp only [Act.put]
      try simp only [List.setIfInBounds_toArray]
      try simp only [List.set]
      refine wpAnyH_take (i := 8) (v := ?v26) rfl (by kernel_rfl) (by kernel_rfl) (by kernel_rfl) (fun _ _ _ h => h) (Or.inl ⟨by kernel_rfl, ?h26⟩) hHeld ?_
      case h26 => intro u hSw; clear hSw; go_simp; try with_reducible rfl
      try simp only [List.getElem_toArray]
      try simp only [List.getElem_cons_succ]
      try simp only [List.getElem_cons_zero]
      try simp only [Act.put]
      try simp only [List.setIfInBounds_toArray]
      try simp only [List.set]
      refine wpAnyH_take (i := 9) (v := ?v27) rfl (by kernel_rfl) (by kernel_rfl) (by kernel_rfl) (fun _ _ _ h => h) (Or.inl ⟨by kernel_rfl, ?h27⟩) hHeld ?_
      case h27 => intro u hSw; clear hSw; go_simp; try with_reducible rfl
      try simp only [List.getElem_toArray]
      try simp only [List.getElem_cons_succ]
      try simp only [List.getElem_cons_zero]
      try simp only [Act.put]
      try simp only [List.setIfInBounds_toArray]
      try simp only [List.set]
      refine wpAnyH_take (i := 10) (v := ?v28) rfl (by kernel_rfl) (by kernel_rfl) (by kernel_rfl) (fun _ _ _ h => h) (Or.inl ⟨by kernel_rfl, ?h28⟩) hHeld ?_
      case h28 => intro u hSw; clear hSw; go_simp; try with_reducible rfl
      try simp only [List.getElem_toArray]
      try simp only [List.getElem_cons_succ]
      try simp only [List.getElem_cons_zero]
      try simp only [Act.put]
      try simp only [List.setIfInBounds_toArray]
      try simp only [List.set]
      refine wpAnyH_take (i := 11) (v := ?v29) rfl (by kernel_rfl) (by kernel_rfl) (by kernel_rfl) (fun _ _ _ h => h) (Or.inl ⟨by kernel_rfl, ?h29⟩) hHeld ?_
      case h29 => intro u hSw; clear hSw; go_simp; try with_reducible rfl
      try simp only [List.getElem_toArray]
      try simp only [List.getElem_cons_succ]
      try simp only [List.getElem_cons_zero]
      try simp only [Act.put]
      try simp only [List.setIfInBounds_toArray]
      try simp only [List.set]
      refine wpAnyH_done (by kernel_rfl) ?_ _
      have dq : (q == 0) = false := by simpa using hq
      have G := hHeld.1
      clear hHeld
      go_wp2_with fail
      go_ret
      exact lb_two G T hS (by omega) hlb
    · refine hK.out _ _ (⟨hHeld.1.below gb, hHeld.2.below gb (World.block_lt_of_cell? _ _ hHeld.2.c0)⟩) (fun hHeld => ?_)
      clear hK K
      try simp only [Act.put]
      try simp only [List.setIfInBounds_toArray]
      try simp only [List.set]
      have P0 : PgN w.heap.size pg mg md my D4 := ⟨hM.len, hMF, (hM.bytes (Nat.le_refl _) hM.lt).reads, hmd, by omega, by omega, hM.lt⟩
      clear gb hcb hM hmg hMF hE1p
      refine wpAnyH_take (i := 5) (v := ?v30) rfl (by kernel_rfl) (by kernel_rfl) (by kernel_rfl) (fun _ _ _ h => h) (Or.inl ⟨by kernel_rfl, ?h30⟩) hHeld ?_
      case h30 => intro u hSw; clear hSw; go_simp; try with_reducible rfl
      try simp only [List.getElem_toArray]
      try simp only [List.getElem_cons_succ]
      try simp only [List.getElem_cons_zero]
      try simp only [Act.put]
      try simp only [List.setIfInBounds_toArray]
      try simp only [List.set]
      refine wpAnyH_take (i := 6) (v := ?v31) rfl (by kernel_rfl) (by kernel_rfl) (by kernel_rfl) (fun _ _ _ h => h) (Or.inl ⟨by kernel_rfl, ?h31⟩) hHeld ?_
      case h31 => intro u hSw; clear hSw; go_simp; try with_reducible rfl
      try simp only [List.getElem_toArray]
      try simp only [List.getElem_cons_succ]
      try simp only [List.getElem_cons_zero]
      try simp only [Act.put]
      try simp only [List.setIfInBounds_toArray]
      try simp only [List.set]
      refine wpAnyH_take (i := 7) (v := ?v32) rfl (by kernel_rfl) (by kernel_rfl) (by kernel_rfl) (fun _ _ _ h => h) (Or.inl ⟨by kernel_rfl, ?h32⟩) hHeld ?_
      case h32 => intro u hSw; clear hSw; go_simp; try with_reducible rfl
      try simp only [List.getElem_toArray]
      try simp only [List.getElem_cons_succ]
      try simp only [List.getElem_cons_zero]
      try simp only [Act.put]
      try simp only [List.setIfInBounds_toArray]
      try simp only [List.set]
      refine wpAnyH_take (i := 8) (v := ?v33) rfl (by kernel_rfl) (by kernel_rfl) (by kernel_rfl) (fun _ _ _ h => h) (Or.inl ⟨by kernel_rfl, ?h33⟩) hHeld ?_
      case h33 => intro u hSw; clear hSw; go_simp; try with_reducible rfl
      try simp only [List.getElem_toArray]
      try simp only [List.getElem_cons_succ]
      try simp only [List.getElem_cons_zero]
      try simp only [Act.put]
      try simp only [List.setIfInBounds_toArray]
      try simp only [List.set]
      refine wpAnyH_take (i := 9) (v := ?v34) rfl (by kernel_rfl) (by kernel_rfl) (by kernel_rfl) (fun _ _ _ h => h) (Or.inl ⟨by kernel_rfl, ?h34⟩) hHeld ?_
      case h34 => intro u hSw; clear hSw; go_simp; try with_reducible rfl
      try simp only [List.getElem_toArray]
      try simp only [List.getElem_cons_succ]
      try simp only [List.getElem_cons_zero]
      try simp only [Act.put]
      try simp only [List.setIfInBounds_toArray]
      try simp only [List.set]
      refine wpAnyH_take (i := 10) (v := ?v35) rfl (by kernel_rfl) (by kernel_rfl) (by kernel_rfl) (fun _ _ _ h => h) (Or.inl ⟨by kernel_rfl, ?h35⟩) hHeld ?_
      case h35 => intro u hSw; clear hSw; go_simp; try with_reducible rfl
      try simp only [List.getElem_toArray]
      try simp only [List.getElem_cons_succ]
      try simp only [List.getElem_cons_zero]
      try simp only [Act.put]
      try simp only [List.setIfInBounds_toArray]
      try simp only [List.set]
      refine wpAnyH_take (i := 11) (v := ?v36) rfl (by kernel_rfl) (by kernel_rfl) (by kernel_rfl) (fun _ _ _ h => h) (Or.inl ⟨by kernel_rfl, ?h36⟩) hHeld ?_
      case h36 => intro u hSw; clear hSw; go_simp; try with_reducible rfl
      try simp only [List.getElem_toArray]
      try simp only [List.getElem_cons_succ]
      try simp only [List.getElem_cons_zero]
      try simp only [Act.put]
      try simp only [List.setIfInBounds_toArray]
      try simp only [List.set]
      refine wpAnyH_done (by kernel_rfl) ?_ _
      have G := hHeld.1
      clear hHeld
      have Q := G.set1 P0
      have hlo := G.lo
      have Ps2 := hS.setFar (p := ⟨pg, 1, none⟩) (by simp only; omega) (.slice (some ⟨mg, 0, none⟩) 64 md)
      have T2 := T.low (w2 := D4.setCell ⟨pg, 1, none⟩ (.slice (some ⟨mg, 0, none⟩) 64 md)) (by go_grown)
      obtain ⟨c0, c1, _, _, hfz, _⟩ := G
      have f0 := hfz 1
      clear T hS P0 hE1
      go_wp2_with fail
      go_ret
      exact lb_two Q T2 Ps2 (by omega) hlb
  · have e0 : (r == 0) = false := by simp; omega
    have e1 : (r == 1) = false := by simp; omega
    have e2 : (r == 2) = false := by simp; omega
    have e3 : (r == 3) = false := by simp; omega
    go_wp2_with fail
    go_ret
    exact lb_two P T hS2 (by omega) hlb

end Go.Proofs.YtdgonddimenmdaaGreat
