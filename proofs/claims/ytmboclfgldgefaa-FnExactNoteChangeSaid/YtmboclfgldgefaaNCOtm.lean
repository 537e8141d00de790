/-
  The model's copies of transactions.
-/
import Derived.Test.YtmboclfgldgefaaNCOtp

namespace Go.Proofs.Ytmboclfgldgefaa
open Go.RowKit Go.Maps
set_option linter.unusedVariables false
set_option maxRecDepth 20000

theorem owns_grow {w w' : World} {B e k n B' e' k' n' : Nat} {v v' : Value} {xs xs' : List Value} (h : w.ownsRow B e k v n xs) (hv : w.ownsRow B' e' k' v' n' xs') (hne : e ≠ e') (hg : w.grownBy w' v'.ownBlock) : w'.ownsRow B e k v n xs :=
  ownsRow_keep h (fun g hq => hg.block g (ownsRow_lo h g hq).2 (fun e => ownsRow_apart h hv hne g hq e.symm))
theorem T4.other {w w' : World} {b lo hi : Nat} {id : Int} {ua ma la : Option Addr} {un uc mn mc ln lc : Nat} (h : T4 w b id ua un uc ma mn mc la ln lc) (ht : Turned lo hi w w') (hl : b < lo ∨ hi ≤ b) : T4 w' b id ua un uc ma mn mc la ln lc :=
  ⟨ht.cell (p := ⟨b, 0, none⟩) h.c0 hl, ht.cell (p := ⟨b, 1, none⟩) h.c1 hl, ht.cell (p := ⟨b, 2, none⟩) h.c2 hl, ht.cell (p := ⟨b, 3, none⟩) h.c3 hl⟩
theorem OneT.base {B B' : Nat} {w : World} {h : TxH} {x : TxV} (t : OneT B w h x) (hb : B' ≤ B) : OneT B' w h x :=
  ⟨t.id, t.un, t.mn, t.ln, ownsRow_base t.u hb, ownsRow_base t.m hb, ownsRow_base t.l hb⟩
theorem fin1 {Y V W : World} {ob : Nat} {id : Int} {a0 a1 a2 : Option Addr} {un c0 mn c1 ln c2 : Nat} {us : List Chg} {ms : List Int} {ls : List K2} (T : Turned ob (ob + 1) V W) (hob : ob < Y.heap.size)
    (h0 : V.ownsRow Y.heap.size 61 10 (.slice a0 un c0) us.length (flat chE us)) (h1 : V.ownsRow Y.heap.size 2 1 (.slice a1 mn c1) ms.length (flat inE ms)) (h2 : V.ownsRow Y.heap.size 89 2 (.slice a2 ln c2) ls.length (flat kyE ls)) (e0 : us.length = un) (e1 : ms.length = mn) (e2 : ls.length = ln) :
    OneT Y.heap.size W ⟨id, a0, un, c0, a1, mn, c1, a2, ln, c2⟩ ⟨id, us, ms, ls⟩ :=
  ⟨rfl, e0.symm, e1.symm, e2.symm, ownsRow_keep h0 (fun g hg => T.block g (ownsRow_lo h0 g hg).2 (by have := (ownsRow_lo h0 g hg).1; omega)), ownsRow_keep h1 (fun g hg => T.block g (ownsRow_lo h1 g hg).2 (by have := (ownsRow_lo h1 g hg).1; omega)), ownsRow_keep h2 (fun g hg => T.block g (ownsRow_lo h2 g hg).2 (by have := (ownsRow_lo h2 g hg).1; omega))⟩

set_option maxHeartbeats 16000000 in
theorem l10CopyOne_any (id : Int) (ua : Option Addr) (us : List Chg) (un uc : Nat) (ma : Option Addr) (ms : List Int) (mn mc : Nat) (la : Option Addr) (ls : List K2) (ln lc : Nat) (w : World) (hun : us.length = un) (k1 : un ≤ 1048576) (hru : Rs chE 10 w ua us) (hmn : ms.length = mn) (k3 : mn ≤ 1048576) (hrm : Rs inE 1 w ma ms) (hln : ls.length = ln) (k4 : ln ≤ 1048576) (hrl : Rs kyE 2 w la ls) :
    Calls Try.prog 157 #[.agg #[.int .i64 id, .slice ua un uc, .slice ma mn mc, .slice la ln lc]] w fun e w' => ∃ a0 c0 a1 c1 a2 c2, e = .returned (.agg #[.int .i64 id, .slice a0 un c0, .slice a1 mn c1, .slice a2 ln c2]) ∧ Below w.heap.size w w' ∧ OneT w.heap.size w' ⟨id, a0, un, c0, a1, mn, c1, a2, ln, c2⟩ ⟨id, us, ms, ls⟩ := by
  have HU : Hid (us.length = un ∧ ms.length = mn ∧ ls.length = ln) := ⟨hun, hmn, hln⟩
  have HR0 : Hid (∀ V, Below w.heap.size w V → Rs chE 10 V ua us) := fun V hV => hru.below hV (Nat.le_refl _)
  have HR1 : Hid (∀ V, Below w.heap.size w V → Rs inE 1 V ma ms) := fun V hV => hrm.below hV (Nat.le_refl _)
  have HR2 : Hid (∀ V, Below w.heap.size w V → Rs kyE 2 V la ls) := fun V hV => hrl.below hV (Nat.le_refl _)
  clear hun hru hmn hrm hln hrl
  go_enter Try.func157, Try.ntmps157
  go_upto_region 1 with (fail)
  generalize hY : World.alloc _ _ = Y
  have g : Below w.heap.size w Y := by rw [← hY]; go_grown
  have Z1 : T4 Y w.heap.size id ua un uc ma mn mc la ln lc := by rw [← hY]; exact ⟨by simp [go_sem], by simp [go_sem], by simp [go_sem], by simp [go_sem]⟩
  have Z2 : T4 Y (w.heap.size + 1) 0 none 0 0 none 0 0 none 0 0 := by rw [← hY]; exact ⟨by simp [go_sem], by simp [go_sem], by simp [go_sem], by simp [go_sem]⟩
  have F2 : ∀ c, Y.frozen? ⟨w.heap.size + 1, c, none⟩ = false := by intro c; rw [← hY]; simp [go_sem]
  clear hY
  obtain ⟨kb, hkb⟩ : ∃ kb, w.heap.size = kb := ⟨_, rfl⟩
  obtain ⟨ob, hob⟩ : ∃ ob, kb + 1 = ob := ⟨_, rfl⟩
  have hwob : w.heap.size ≤ ob := by omega
  have hkob : kb < ob ∨ ob + 1 ≤ kb := by omega
  rw [hkb] at Z1 Z2 F2
  rw [hob] at Z2 F2
  simp only [hkb]
  try simp only [hob]
  have HKB : Hid (w.heap.size = kb) := hkb
  clear hkb hob
  have hkY : kb < Y.heap.size := Z1.lt
  have hob : ob < Y.heap.size := Z2.lt
  have hwY : w.heap.size ≤ Y.heap.size := g.size
  have HO : Hid (∀ V, Below Y.heap.size Y V → T4 V ob 0 none 0 0 none 0 0 none 0 0 ∧ ∀ c, V.frozen? ⟨ob, c, none⟩ = false) := fun V hV => ⟨Z2.below hV hob, fun c => (hV.frozen (p := ⟨ob, c, none⟩) hob).trans (F2 c)⟩
  clear Z2 F2
  refine wp_region_held_drew (S := fun V => T4 V kb id ua un uc ma mn mc la ln lc ∧ Below w.heap.size w V) (by kernel_rfl) ⟨⟨Z1.c0, Z1.c1, Z1.c2, Z1.c3⟩, g.trans ((Below.refl _ Y).drew.mono g.size)⟩ (fun hHeld => ?_)
  have hbY : Below Y.heap.size Y Y.drew := (Below.refl _ Y).drew
  clear Z1 g
  generalize Y.drew = D at hHeld hbY ⊢
  refine wpAnyH_take (i := 0) (v := ?v1) rfl (by kernel_rfl) (by kernel_rfl) (by kernel_rfl) (fun _ _ _ h => h) (Or.inl ⟨by kernel_rfl, ?h1⟩) hHeld ?_
  case h1 => intro u hSw; (obtain ⟨q0, q1, q2, q3⟩ := hSw.1); go_simp; try with_reducible rfl
  try simp only [List.getElem_toArray]
  try simp only [List.getElem_cons_succ]
  try simp only [List.getElem_cons_zero]
  try simp only [Act.put]
  try simp only [List.setIfInBounds_toArray]
  try simp only [List.set]
  refine wpAnyH_take (i := 1) (v := ?v2) rfl (by kernel_rfl) (by kernel_rfl) (by kernel_rfl) (fun _ _ _ h => h) (Or.inl ⟨by kernel_rfl, ?h2⟩) hHeld ?_
  case h2 => intro u hSw; (obtain ⟨q0, q1, q2, q3⟩ := hSw.1); go_simp; try with_reducible rfl
  try simp only [List.getElem_toArray]
  try simp only [List.getElem_cons_succ]
  try simp only [List.getElem_cons_zero]
  try simp only [Act.put]
  try simp only [List.setIfInBounds_toArray]
  try simp only [List.set]
  refine wpAnyH_take (i := 3) (v := ?v3) rfl (by kernel_rfl) (by kernel_rfl) (by kernel_rfl) (fun _ _ _ h => h) (Or.inl ⟨by kernel_rfl, ?h3⟩) hHeld ?_
  case h3 => intro u hSw; (obtain ⟨q0, q1, q2, q3⟩ := hSw.1); go_simp; try with_reducible rfl
  try simp only [List.getElem_toArray]
  try simp only [List.getElem_cons_succ]
  try simp only [List.getElem_cons_zero]
  try simp only [Act.put]
  try simp only [List.setIfInBounds_toArray]
  try simp only [List.set]
  refine wpAnyH_take (i := 4) (v := ?v4) rfl (by kernel_rfl) (by kernel_rfl) (by kernel_rfl) (fun _ _ _ h => h) (Or.inl ⟨by kernel_rfl, ?h4⟩) hHeld ?_
  case h4 => intro u hSw; (obtain ⟨q0, q1, q2, q3⟩ := hSw.1); go_simp; try with_reducible rfl
  try simp only [List.getElem_toArray]
  try simp only [List.getElem_cons_succ]
  try simp only [List.getElem_cons_zero]
  try simp only [Act.put]
  try simp only [List.setIfInBounds_toArray]
  try simp only [List.set]
  refine wpAnyH_take (i := 7) (v := ?v5) rfl (by kernel_rfl) (by kernel_rfl) (by kernel_rfl) (fun _ _ _ h => h) (Or.inl ⟨by kernel_rfl, ?h5⟩) hHeld ?_
  case h5 => intro u hSw; (obtain ⟨q0, q1, q2, q3⟩ := hSw.1); go_simp; try with_reducible rfl
  try simp only [List.getElem_toArray]
  try simp only [List.getElem_cons_succ]
  try simp only [List.getElem_cons_zero]
  try simp only [Act.put]
  try simp only [List.setIfInBounds_toArray]
  try simp only [List.set]
  refine wpAnyH_take (i := 8) (v := ?v6) rfl (by kernel_rfl) (by kernel_rfl) (by kernel_rfl) (fun _ _ _ h => h) (Or.inl ⟨by kernel_rfl, ?h6⟩) hHeld ?_
  case h6 => intro u hSw; (obtain ⟨q0, q1, q2, q3⟩ := hSw.1); go_simp; try with_reducible rfl
  try simp only [List.getElem_toArray]
  try simp only [List.getElem_cons_succ]
  try simp only [List.getElem_cons_zero]
  try simp only [Act.put]
  try simp only [List.setIfInBounds_toArray]
  try simp only [List.set]
  refine wpAnyH_take (i := 11) (v := ?v7) rfl (by kernel_rfl) (by kernel_rfl) (by kernel_rfl) (fun _ _ _ h => h) (Or.inl ⟨by kernel_rfl, ?h7⟩) hHeld ?_
  case h7 => intro u hSw; (obtain ⟨q0, q1, q2, q3⟩ := hSw.1); go_simp; try with_reducible rfl
  try simp only [List.getElem_toArray]
  try simp only [List.getElem_cons_succ]
  try simp only [List.getElem_cons_zero]
  try simp only [Act.put]
  try simp only [List.setIfInBounds_toArray]
  try simp only [List.set]
  refine wpAnyH_take (i := 12) (v := ?v8) rfl (by kernel_rfl) (by kernel_rfl) (by kernel_rfl) (fun _ _ _ h => h) (Or.inl ⟨by kernel_rfl, ?h8⟩) hHeld ?_
  case h8 => intro u hSw; (obtain ⟨q0, q1, q2, q3⟩ := hSw.1); go_simp; try with_reducible rfl
  try simp only [List.getElem_toArray]
  try simp only [List.getElem_cons_succ]
  try simp only [List.getElem_cons_zero]
  try simp only [Act.put]
  try simp only [List.setIfInBounds_toArray]
  try simp only [List.set]
  refine wpAnyH_ready (rs := [2, 6, 10]) (by kernel_rfl) (by simp) ?_
  refine AllReadyH.cons rfl (fun K hK => ?_) (AllReadyH.cons rfl (fun K hK => ?_) (AllReadyH.cons rfl (fun K hK => ?_) (AllReadyH.nil)))
  · have gAl : Below D.heap.size D (D.alloc (.cells #[] 61)) := by go_grown
    have h0 : (D.alloc (.cells #[] 61)).ownsRow Y.heap.size 61 10 (.slice (some ⟨D.heap.size, 0, none⟩) 0 0) ([] : List Chg).length (flat chE []) := ownsRow_base (own_litN D 61 10) hbY.size
    go_simp
    refine hK.out _ _ ⟨hHeld.1.below gAl hHeld.1.lt, hHeld.2.trans (gAl.mono hHeld.2.size)⟩ (fun hHeld => ?_)
    clear hK K
    have hbY := hbY.trans (gAl.mono hbY.size)
    clear gAl
    generalize D.alloc (.cells #[] 61) = U1 at hHeld hbY h0  ⊢
    generalize D.heap.size = g0 at h0 ⊢
    try simp only [Act.put]
    try simp only [List.setIfInBounds_toArray]
    try simp only [List.set]
    refine wpAnyH_ready (rs := [5, 6, 10]) (by kernel_rfl) (by simp) ?_
    refine AllReadyH.cons rfl (fun K hK => ?_) (AllReadyH.cons rfl (fun K hK => ?_) (AllReadyH.cons rfl (fun K hK => ?_) (AllReadyH.nil)))
    · rw [if_pos (by kernel_rfl)]
      refine wp_append_sl elC _ _ _ rfl Y.heap.size _ [] us ua un uc rfl rfl HU.out.1 h0 (HR0.out _ hHeld.2) (by rw [HU.out.1]; simp; omega) hbY.size ?_
      intro v0 U2 ho hg _
      have hgB : Below Y.heap.size U1 U2 := Below.grown (Below.refl _ _) hg hbY.size (fun q e => (ownsRow_lo h0 q e).1)
      refine hK.out _ _ ⟨hHeld.1.below hgB hkY, hHeld.2.trans (hgB.mono hwY)⟩ (fun hHeld => ?_)
      clear hK K
      have hbY := hbY.trans hgB
      have ho : U2.ownsRow Y.heap.size 61 10 v0 us.length (flat chE us) := ho
      clear h0 hg hgB
      obtain ⟨a0, c0, e0, _⟩ := SlIn.ofRow chE_len ho
      rw [HU.out.1] at e0
      subst e0
      have h0 := ho
      clear ho
      try simp only [Act.put]
      try simp only [List.setIfInBounds_toArray]
      try simp only [List.set]
      refine wpAnyH_ready (rs := [6, 10]) (by kernel_rfl) (by simp) ?_
      refine AllReadyH.cons rfl (fun K hK => ?_) (AllReadyH.cons rfl (fun K hK => ?_) (AllReadyH.nil))
      · have gAl : Below U2.heap.size U2 (U2.alloc (.cells #[] 2)) := by go_grown
        have h1 : (U2.alloc (.cells #[] 2)).ownsRow Y.heap.size 2 1 (.slice (some ⟨U2.heap.size, 0, none⟩) 0 0) ([] : List Int).length (flat inE []) := ownsRow_base (own_litN U2 2 1) hbY.size
        go_simp
        refine hK.out _ _ ⟨hHeld.1.below gAl hHeld.1.lt, hHeld.2.trans (gAl.mono hHeld.2.size)⟩ (fun hHeld => ?_)
        clear hK K
        have hbY := hbY.trans (gAl.mono hbY.size)
        have h0 := ownsRow_below h0 gAl
        clear gAl
        generalize U2.alloc (.cells #[] 2) = U3 at hHeld hbY h1 h0 ⊢
        generalize U2.heap.size = g1 at h1 ⊢
        try simp only [Act.put]
        try simp only [List.setIfInBounds_toArray]
        try simp only [List.set]
        refine wpAnyH_ready (rs := [9, 10]) (by kernel_rfl) (by simp) ?_
        refine AllReadyH.cons rfl (fun K hK => ?_) (AllReadyH.cons rfl (fun K hK => ?_) (AllReadyH.nil))
        · rw [if_pos (by kernel_rfl)]
          refine wp_append_sl elI _ _ _ rfl Y.heap.size _ [] ms ma mn mc rfl rfl HU.out.2.1 h1 (HR1.out _ hHeld.2) (by rw [HU.out.2.1]; simp; omega) hbY.size ?_
          intro v1 U4 ho hg _
          have hgB : Below Y.heap.size U3 U4 := Below.grown (Below.refl _ _) hg hbY.size (fun q e => (ownsRow_lo h1 q e).1)
          refine hK.out _ _ ⟨hHeld.1.below hgB hkY, hHeld.2.trans (hgB.mono hwY)⟩ (fun hHeld => ?_)
          clear hK K
          have hbY := hbY.trans hgB
          have h0 := owns_grow h0 h1 (by decide) hg
          have ho : U4.ownsRow Y.heap.size 2 1 v1 ms.length (flat inE ms) := ho
          clear h1 hg hgB
          obtain ⟨a1, c1, e1, _⟩ := SlIn.ofRow inE_len ho
          rw [HU.out.2.1] at e1
          subst e1
          have h1 := ho
          clear ho
          try simp only [Act.put]
          try simp only [List.setIfInBounds_toArray]
          try simp only [List.set]
          refine wpAnyH_ready (rs := [10]) (by kernel_rfl) (by simp) ?_
          refine AllReadyH.cons rfl (fun K hK => ?_) (AllReadyH.nil)
          have gAl : Below U4.heap.size U4 (U4.alloc (.cells #[] 89)) := by go_grown
          have h2 : (U4.alloc (.cells #[] 89)).ownsRow Y.heap.size 89 2 (.slice (some ⟨U4.heap.size, 0, none⟩) 0 0) ([] : List K2).length (flat kyE []) := ownsRow_base (own_litN U4 89 2) hbY.size
          go_simp
          refine hK.out _ _ ⟨hHeld.1.below gAl hHeld.1.lt, hHeld.2.trans (gAl.mono hHeld.2.size)⟩ (fun hHeld => ?_)
          clear hK K
          have hbY := hbY.trans (gAl.mono hbY.size)
          have h0 := ownsRow_below h0 gAl
          have h1 := ownsRow_below h1 gAl
          clear gAl
          generalize U4.alloc (.cells #[] 89) = U5 at hHeld hbY h2 h0 h1 ⊢
          generalize U4.heap.size = g2 at h2 ⊢
          try simp only [Act.put]
          try simp only [List.setIfInBounds_toArray]
          try simp only [List.set]
          refine wpAnyH_ready (rs := [13]) (by kernel_rfl) (by simp) ?_
          refine AllReadyH.cons rfl (fun K hK => ?_) (AllReadyH.nil)
          rw [if_pos (by kernel_rfl)]
          refine wp_append_sl elKs _ _ _ rfl Y.heap.size _ [] ls la ln lc rfl rfl HU.out.2.2 h2 (HR2.out _ hHeld.2) (by rw [HU.out.2.2]; simp; omega) hbY.size ?_
          intro v2 U6 ho hg _
          have hgB : Below Y.heap.size U5 U6 := Below.grown (Below.refl _ _) hg hbY.size (fun q e => (ownsRow_lo h2 q e).1)
          refine hK.out _ _ ⟨hHeld.1.below hgB hkY, hHeld.2.trans (hgB.mono hwY)⟩ (fun hHeld => ?_)
          clear hK K
          have hbY := hbY.trans hgB
          have h0 := owns_grow h0 h2 (by decide) hg
          have h1 := owns_grow h1 h2 (by decide) hg
          have ho : U6.ownsRow Y.heap.size 89 2 v2 ls.length (flat kyE ls) := ho
          clear h2 hg hgB
          obtain ⟨a2, c2, e2, _⟩ := SlIn.ofRow kyE_len ho
          rw [HU.out.2.2] at e2
          subst e2
          have h2 := ho
          clear ho
          try simp only [Act.put]
          try simp only [List.setIfInBounds_toArray]
          try simp only [List.set]
          refine wpAnyH_take (i := 14) (v := ?v9) rfl (by kernel_rfl) (by kernel_rfl) (by kernel_rfl) (fun _ _ _ h => h) (Or.inl ⟨by kernel_rfl, ?h9⟩) hHeld ?_
          case h9 => intro u hSw; (obtain ⟨q0, q1, q2, q3⟩ := hSw.1); go_simp; try with_reducible rfl
          try simp only [List.getElem_toArray]
          try simp only [List.getElem_cons_succ]
          try simp only [List.getElem_cons_zero]
          try simp only [Act.put]
          try simp only [List.setIfInBounds_toArray]
          try simp only [List.set]
          obtain ⟨⟨z0, z1, z2, z3⟩, zf⟩ := HO.out _ hbY
          have f0 := zf 0
          have f1 := zf 1
          have f2 := zf 2
          have f3 := zf 3
          clear zf
          have T : Turned ob (ob + 1) U6 ((((U6.setCell ⟨ob, 0, none⟩ (.int .i64 id)).setCell ⟨ob, 1, none⟩ (.slice a0 un c0)).setCell ⟨ob, 2, none⟩ (.slice a1 mn c1)).setCell ⟨ob, 3, none⟩ (.slice a2 ln c2)) := ((((Turned.refl _ _ U6).setCell (p := ⟨ob, 0, none⟩) (Nat.le_refl _) (Nat.lt_succ_self _) _).setCell (p := ⟨ob, 1, none⟩) (Nat.le_refl _) (Nat.lt_succ_self _) _).setCell (p := ⟨ob, 2, none⟩) (Nat.le_refl _) (Nat.lt_succ_self _) _).setCell (p := ⟨ob, 3, none⟩) (Nat.le_refl _) (Nat.lt_succ_self _) _
          have HT : Hid (OneT Y.heap.size ((((U6.setCell ⟨ob, 0, none⟩ (.int .i64 id)).setCell ⟨ob, 1, none⟩ (.slice a0 un c0)).setCell ⟨ob, 2, none⟩ (.slice a1 mn c1)).setCell ⟨ob, 3, none⟩ (.slice a2 ln c2)) ⟨id, a0, un, c0, a1, mn, c1, a2, ln, c2⟩ ⟨id, us, ms, ls⟩) := fin1 T hob h0 h1 h2 HU.out.1 HU.out.2.1 HU.out.2.2
          refine wpAnyH_ready (rs := [15]) (by kernel_rfl) (by simp) ?_
          refine AllReadyH.cons rfl (fun K hK => ?_) AllReadyH.nil
          go_simp
          refine hK.out _ _ ⟨hHeld.1.other T hkob, hHeld.2.trans (T.toBelow hHeld.2.size hwob)⟩ (fun hHeld => ?_)
          clear hK K
          try simp only [Act.put]
          try simp only [List.setIfInBounds_toArray]
          try simp only [List.set]
          refine wpAnyH_done (by kernel_rfl) ?_ _
          have Z4 : T4 ((((U6.setCell ⟨ob, 0, none⟩ (.int .i64 id)).setCell ⟨ob, 1, none⟩ (.slice a0 un c0)).setCell ⟨ob, 2, none⟩ (.slice a1 mn c1)).setCell ⟨ob, 3, none⟩ (.slice a2 ln c2)) ob id a0 un c0 a1 mn c1 a2 ln c2 := ⟨by simp [go_sem, z0], by simp [go_sem, z1], by simp [go_sem, z2], by simp [go_sem, z3]⟩
          have g := hHeld.2
          clear hHeld T z0 z1 z2 z3 f0 f1 f2 f3 h0 h1 h2 hbY
          generalize ((((U6.setCell ⟨ob, 0, none⟩ (.int .i64 id)).setCell ⟨ob, 1, none⟩ (.slice a0 un c0)).setCell ⟨ob, 2, none⟩ (.slice a1 mn c1)).setCell ⟨ob, 3, none⟩ (.slice a2 ln c2)) = W at HT Z4 g ⊢
          obtain ⟨z0, z1, z2, z3⟩ := Z4
          go_wp2_with fail
          refine bodyPost_ret (v := .agg #[.int .i64 id, .slice a0 un c0, .slice a1 mn c1, .slice a2 ln c2]) (by simp [results, Try.results157, go_sem, *]) rfl ?_
          exact ⟨a0, c0, a1, c1, a2, c2, rfl, g, HT.out.base hwY⟩
        · have gAl : Below U3.heap.size U3 (U3.alloc (.cells #[] 89)) := by go_grown
          have h2 : (U3.alloc (.cells #[] 89)).ownsRow Y.heap.size 89 2 (.slice (some ⟨U3.heap.size, 0, none⟩) 0 0) ([] : List K2).length (flat kyE []) := ownsRow_base (own_litN U3 89 2) hbY.size
          go_simp
          refine hK.out _ _ ⟨hHeld.1.below gAl hHeld.1.lt, hHeld.2.trans (gAl.mono hHeld.2.size)⟩ (fun hHeld => ?_)
          clear hK K
          have hbY := hbY.trans (gAl.mono hbY.size)
          have h0 := ownsRow_below h0 gAl
          have h1 := ownsRow_below h1 gAl
          clear gAl
          generalize U3.alloc (.cells #[] 89) = U7 at hHeld hbY h2 h0 h1 ⊢
          generalize U3.heap.size = g2 at h2 ⊢
          try simp only [Act.put]
          try simp only [List.setIfInBounds_toArray]
          try simp only [List.set]
          refine wpAnyH_ready (rs := [9]) (by kernel_rfl) (by simp) ?_
          refine AllReadyH.cons rfl (fun K hK => ?_) (AllReadyH.nil)
          rw [if_pos (by kernel_rfl)]
          refine wp_append_sl elI _ _ _ rfl Y.heap.size _ [] ms ma mn mc rfl rfl HU.out.2.1 h1 (HR1.out _ hHeld.2) (by rw [HU.out.2.1]; simp; omega) hbY.size ?_
          intro v1 U8 ho hg _
          have hgB : Below Y.heap.size U7 U8 := Below.grown (Below.refl _ _) hg hbY.size (fun q e => (ownsRow_lo h1 q e).1)
          refine hK.out _ _ ⟨hHeld.1.below hgB hkY, hHeld.2.trans (hgB.mono hwY)⟩ (fun hHeld => ?_)
          clear hK K
          have hbY := hbY.trans hgB
          have h0 := owns_grow h0 h1 (by decide) hg
          have h2 := owns_grow h2 h1 (by decide) hg
          have ho : U8.ownsRow Y.heap.size 2 1 v1 ms.length (flat inE ms) := ho
          clear h1 hg hgB
          obtain ⟨a1, c1, e1, _⟩ := SlIn.ofRow inE_len ho
          rw [HU.out.2.1] at e1
          subst e1
          have h1 := ho
          clear ho
          try simp only [Act.put]
          try simp only [List.setIfInBounds_toArray]
          try simp only [List.set]
          refine wpAnyH_ready (rs := [13]) (by kernel_rfl) (by simp) ?_
          refine AllReadyH.cons rfl (fun K hK => ?_) (AllReadyH.nil)
          rw [if_pos (by kernel_rfl)]
          refine wp_append_sl elKs _ _ _ rfl Y.heap.size _ [] ls la ln lc rfl rfl HU.out.2.2 h2 (HR2.out _ hHeld.2) (by rw [HU.out.2.2]; simp; omega) hbY.size ?_
          intro v2 U9 ho hg _
          have hgB : Below Y.heap.size U8 U9 := Below.grown (Below.refl _ _) hg hbY.size (fun q e => (ownsRow_lo h2 q e).1)
          refine hK.out _ _ ⟨hHeld.1.below hgB hkY, hHeld.2.trans (hgB.mono hwY)⟩ (fun hHeld => ?_)
          clear hK K
          have hbY := hbY.trans hgB
          have h0 := owns_grow h0 h2 (by decide) hg
          have h1 := owns_grow h1 h2 (by decide) hg
          have ho : U9.ownsRow Y.heap.size 89 2 v2 ls.length (flat kyE ls) := ho
          clear h2 hg hgB
          obtain ⟨a2, c2, e2, _⟩ := SlIn.ofRow kyE_len ho
          rw [HU.out.2.2] at e2
          subst e2
          have h2 := ho
          clear ho
          try simp only [Act.put]
          try simp only [List.setIfInBounds_toArray]
          try simp only [List.set]
          refine wpAnyH_take (i := 14) (v := ?v10) rfl (by kernel_rfl) (by kernel_rfl) (by kernel_rfl) (fun _ _ _ h => h) (Or.inl ⟨by kernel_rfl, ?h10⟩) hHeld ?_
          case h10 => intro u hSw; (obtain ⟨q0, q1, q2, q3⟩ := hSw.1); go_simp; try with_reducible rfl
          try simp only [List.getElem_toArray]
          try simp only [List.getElem_cons_succ]
          try simp only [List.getElem_cons_zero]
          try simp only [Act.put]
          try simp only [List.setIfInBounds_toArray]
          try simp only [List.set]
          obtain ⟨⟨z0, z1, z2, z3⟩, zf⟩ := HO.out _ hbY
          have f0 := zf 0
          have f1 := zf 1
          have f2 := zf 2
          have f3 := zf 3
          clear zf
          have T : Turned ob (ob + 1) U9 ((((U9.setCell ⟨ob, 0, none⟩ (.int .i64 id)).setCell ⟨ob, 1, none⟩ (.slice a0 un c0)).setCell ⟨ob, 2, none⟩ (.slice a1 mn c1)).setCell ⟨ob, 3, none⟩ (.slice a2 ln c2)) := ((((Turned.refl _ _ U9).setCell (p := ⟨ob, 0, none⟩) (Nat.le_refl _) (Nat.lt_succ_self _) _).setCell (p := ⟨ob, 1, none⟩) (Nat.le_refl _) (Nat.lt_succ_self _) _).setCell (p := ⟨ob, 2, none⟩) (Nat.le_refl _) (Nat.lt_succ_self _) _).setCell (p := ⟨ob, 3, none⟩) (Nat.le_refl _) (Nat.lt_succ_self _) _
          have HT : Hid (OneT Y.heap.size ((((U9.setCell ⟨ob, 0, none⟩ (.int .i64 id)).setCell ⟨ob, 1, none⟩ (.slice a0 un c0)).setCell ⟨ob, 2, none⟩ (.slice a1 mn c1)).setCell ⟨ob, 3, none⟩ (.slice a2 ln c2)) ⟨id, a0, un, c0, a1, mn, c1, a2, ln, c2⟩ ⟨id, us, ms, ls⟩) := fin1 T hob h0 h1 h2 HU.out.1 HU.out.2.1 HU.out.2.2
          refine wpAnyH_ready (rs := [15]) (by kernel_rfl) (by simp) ?_
          refine AllReadyH.cons rfl (fun K hK => ?_) AllReadyH.nil
          go_simp
          refine hK.out _ _ ⟨hHeld.1.other T hkob, hHeld.2.trans (T.toBelow hHeld.2.size hwob)⟩ (fun hHeld => ?_)
          clear hK K
          try simp only [Act.put]
          try simp only [List.setIfInBounds_toArray]
          try simp only [List.set]
          refine wpAnyH_done (by kernel_rfl) ?_ _
          have Z4 : T4 ((((U9.setCell ⟨ob, 0, none⟩ (.int .i64 id)).setCell ⟨ob, 1, none⟩ (.slice a0 un c0)).setCell ⟨ob, 2, none⟩ (.slice a1 mn c1)).setCell ⟨ob, 3, none⟩ (.slice a2 ln c2)) ob id a0 un c0 a1 mn c1 a2 ln c2 := ⟨by simp [go_sem, z0], by simp [go_sem, z1], by simp [go_sem, z2], by simp [go_sem, z3]⟩
          have g := hHeld.2
          clear hHeld T z0 z1 z2 z3 f0 f1 f2 f3 h0 h1 h2 hbY
          generalize ((((U9.setCell ⟨ob, 0, none⟩ (.int .i64 id)).setCell ⟨ob, 1, none⟩ (.slice a0 un c0)).setCell ⟨ob, 2, none⟩ (.slice a1 mn c1)).setCell ⟨ob, 3, none⟩ (.slice a2 ln c2)) = W at HT Z4 g ⊢
          obtain ⟨z0, z1, z2, z3⟩ := Z4
          go_wp2_with fail
          refine bodyPost_ret (v := .agg #[.int .i64 id, .slice a0 un c0, .slice a1 mn c1, .slice a2 ln c2]) (by simp [results, Try.results157, go_sem, *]) rfl ?_
          exact ⟨a0, c0, a1, c1, a2, c2, rfl, g, HT.out.base hwY⟩
      · have gAl : Below U2.heap.size U2 (U2.alloc (.cells #[] 89)) := by go_grown
        have h2 : (U2.alloc (.cells #[] 89)).ownsRow Y.heap.size 89 2 (.slice (some ⟨U2.heap.size, 0, none⟩) 0 0) ([] : List K2).length (flat kyE []) := ownsRow_base (own_litN U2 89 2) hbY.size
        go_simp
        refine hK.out _ _ ⟨hHeld.1.below gAl hHeld.1.lt, hHeld.2.trans (gAl.mono hHeld.2.size)⟩ (fun hHeld => ?_)
        clear hK K
        have hbY := hbY.trans (gAl.mono hbY.size)
        have h0 := ownsRow_below h0 gAl
        clear gAl
        generalize U2.alloc (.cells #[] 89) = U10 at hHeld hbY h2 h0 ⊢
        generalize U2.heap.size = g2 at h2 ⊢
        try simp only [Act.put]
        try simp only [List.setIfInBounds_toArray]
        try simp only [List.set]
        refine wpAnyH_ready (rs := [6]) (by kernel_rfl) (by simp) ?_
        refine AllReadyH.cons rfl (fun K hK => ?_) (AllReadyH.nil)
        have gAl : Below U10.heap.size U10 (U10.alloc (.cells #[] 2)) := by go_grown
        have h1 : (U10.alloc (.cells #[] 2)).ownsRow Y.heap.size 2 1 (.slice (some ⟨U10.heap.size, 0, none⟩) 0 0) ([] : List Int).length (flat inE []) := ownsRow_base (own_litN U10 2 1) hbY.size
        go_simp
        refine hK.out _ _ ⟨hHeld.1.below gAl hHeld.1.lt, hHeld.2.trans (gAl.mono hHeld.2.size)⟩ (fun hHeld => ?_)
        clear hK K
        have hbY := hbY.trans (gAl.mono hbY.size)
        have h0 := ownsRow_below h0 gAl
        have h2 := ownsRow_below h2 gAl
        clear gAl
        generalize U10.alloc (.cells #[] 2) = U11 at hHeld hbY h1 h0 h2 ⊢
        generalize U10.heap.size = g1 at h1 ⊢
        try simp only [Act.put]
        try simp only [List.setIfInBounds_toArray]
        try simp only [List.set]
        refine wpAnyH_ready (rs := [9]) (by kernel_rfl) (by simp) ?_
        refine AllReadyH.cons rfl (fun K hK => ?_) (AllReadyH.nil)
        rw [if_pos (by kernel_rfl)]
        refine wp_append_sl elI _ _ _ rfl Y.heap.size _ [] ms ma mn mc rfl rfl HU.out.2.1 h1 (HR1.out _ hHeld.2) (by rw [HU.out.2.1]; simp; omega) hbY.size ?_
        intro v1 U12 ho hg _
        have hgB : Below Y.heap.size U11 U12 := Below.grown (Below.refl _ _) hg hbY.size (fun q e => (ownsRow_lo h1 q e).1)
        refine hK.out _ _ ⟨hHeld.1.below hgB hkY, hHeld.2.trans (hgB.mono hwY)⟩ (fun hHeld => ?_)
        clear hK K
        have hbY := hbY.trans hgB
        have h0 := owns_grow h0 h1 (by decide) hg
        have h2 := owns_grow h2 h1 (by decide) hg
        have ho : U12.ownsRow Y.heap.size 2 1 v1 ms.length (flat inE ms) := ho
        clear h1 hg hgB
        obtain ⟨a1, c1, e1, _⟩ := SlIn.ofRow inE_len ho
        rw [HU.out.2.1] at e1
        subst e1
        have h1 := ho
        clear ho
        try simp only [Act.put]
        try simp only [List.setIfInBounds_toArray]
        try simp only [List.set]
        refine wpAnyH_ready (rs := [13]) (by kernel_rfl) (by simp) ?_
        refine AllReadyH.cons rfl (fun K hK => ?_) (AllReadyH.nil)
        rw [if_pos (by kernel_rfl)]
        refine wp_append_sl elKs _ _ _ rfl Y.heap.size _ [] ls la ln lc rfl rfl HU.out.2.2 h2 (HR2.out _ hHeld.2) (by rw [HU.out.2.2]; simp; omega) hbY.size ?_
        intro v2 U13 ho hg _
        have hgB : Below Y.heap.size U12 U13 := Below.grown (Below.refl _ _) hg hbY.size (fun q e => (ownsRow_lo h2 q e).1)
        refine hK.out _ _ ⟨hHeld.1.below hgB hkY, hHeld.2.trans (hgB.mono hwY)⟩ (fun hHeld => ?_)
        clear hK K
        have hbY := hbY.trans hgB
        have h0 := owns_grow h0 h2 (by decide) hg
        have h1 := owns_grow h1 h2 (by decide) hg
        have ho : U13.ownsRow Y.heap.size 89 2 v2 ls.length (flat kyE ls) := ho
        clear h2 hg hgB
        obtain ⟨a2, c2, e2, _⟩ := SlIn.ofRow kyE_len ho
        rw [HU.out.2.2] at e2
        subst e2
        have h2 := ho
        clear ho
        try simp only [Act.put]
        try simp only [List.setIfInBounds_toArray]
        try simp only [List.set]
        refine wpAnyH_take (i := 14) (v := ?v11) rfl (by kernel_rfl) (by kernel_rfl) (by kernel_rfl) (fun _ _ _ h => h) (Or.inl ⟨by kernel_rfl, ?h11⟩) hHeld ?_
        case h11 => intro u hSw; (obtain ⟨q0, q1, q2, q3⟩ := hSw.1); go_simp; try with_reducible rfl
        try simp only [List.getElem_toArray]
        try simp only [List.getElem_cons_succ]
        try simp only [List.getElem_cons_zero]
        try simp only [Act.put]
        try simp only [List.setIfInBounds_toArray]
        try simp only [List.set]
        obtain ⟨⟨z0, z1, z2, z3⟩, zf⟩ := HO.out _ hbY
        have f0 := zf 0
        have f1 := zf 1
        have f2 := zf 2
        have f3 := zf 3
        clear zf
        have T : Turned ob (ob + 1) U13 ((((U13.setCell ⟨ob, 0, none⟩ (.int .i64 id)).setCell ⟨ob, 1, none⟩ (.slice a0 un c0)).setCell ⟨ob, 2, none⟩ (.slice a1 mn c1)).setCell ⟨ob, 3, none⟩ (.slice a2 ln c2)) := ((((Turned.refl _ _ U13).setCell (p := ⟨ob, 0, none⟩) (Nat.le_refl _) (Nat.lt_succ_self _) _).setCell (p := ⟨ob, 1, none⟩) (Nat.le_refl _) (Nat.lt_succ_self _) _).setCell (p := ⟨ob, 2, none⟩) (Nat.le_refl _) (Nat.lt_succ_self _) _).setCell (p := ⟨ob, 3, none⟩) (Nat.le_refl _) (Nat.lt_succ_self _) _
        have HT : Hid (OneT Y.heap.size ((((U13.setCell ⟨ob, 0, none⟩ (.int .i64 id)).setCell ⟨ob, 1, none⟩ (.slice a0 un c0)).setCell ⟨ob, 2, none⟩ (.slice a1 mn c1)).setCell ⟨ob, 3, none⟩ (.slice a2 ln c2)) ⟨id, a0, un, c0, a1, mn, c1, a2, ln, c2⟩ ⟨id, us, ms, ls⟩) := fin1 T hob h0 h1 h2 HU.out.1 HU.out.2.1 HU.out.2.2
        refine wpAnyH_ready (rs := [15]) (by kernel_rfl) (by simp) ?_
        refine AllReadyH.cons rfl (fun K hK => ?_) AllReadyH.nil
        go_simp
        refine hK.out _ _ ⟨hHeld.1.other T hkob, hHeld.2.trans (T.toBelow hHeld.2.size hwob)⟩ (fun hHeld => ?_)
        clear hK K
        try simp only [Act.put]
        try simp only [List.setIfInBounds_toArray]
        try simp only [List.set]
        refine wpAnyH_done (by kernel_rfl) ?_ _
        have Z4 : T4 ((((U13.setCell ⟨ob, 0, none⟩ (.int .i64 id)).setCell ⟨ob, 1, none⟩ (.slice a0 un c0)).setCell ⟨ob, 2, none⟩ (.slice a1 mn c1)).setCell ⟨ob, 3, none⟩ (.slice a2 ln c2)) ob id a0 un c0 a1 mn c1 a2 ln c2 := ⟨by simp [go_sem, z0], by simp [go_sem, z1], by simp [go_sem, z2], by simp [go_sem, z3]⟩
        have g := hHeld.2
        clear hHeld T z0 z1 z2 z3 f0 f1 f2 f3 h0 h1 h2 hbY
        generalize ((((U13.setCell ⟨ob, 0, none⟩ (.int .i64 id)).setCell ⟨ob, 1, none⟩ (.slice a0 un c0)).setCell ⟨ob, 2, none⟩ (.slice a1 mn c1)).setCell ⟨ob, 3, none⟩ (.slice a2 ln c2)) = W at HT Z4 g ⊢
        obtain ⟨z0, z1, z2, z3⟩ := Z4
        go_wp2_with fail
        refine bodyPost_ret (v := .agg #[.int .i64 id, .slice a0 un c0, .slice a1 mn c1, .slice a2 ln c2]) (by simp [results, Try.results157, go_sem, *]) rfl ?_
        exact ⟨a0, c0, a1, c1, a2, c2, rfl, g, HT.out.base hwY⟩
    · have gAl : Below U1.heap.size U1 (U1.alloc (.cells #[] 2)) := by go_grown
      have h1 : (U1.alloc (.cells #[] 2)).ownsRow Y.heap.size 2 1 (.slice (some ⟨U1.heap.size, 0, none⟩) 0 0) ([] : List Int).length (flat inE []) := ownsRow_base (own_litN U1 2 1) hbY.size
      go_simp
      refine hK.out _ _ ⟨hHeld.1.below gAl hHeld.1.lt, hHeld.2.trans (gAl.mono hHeld.2.size)⟩ (fun hHeld => ?_)
      clear hK K
      have hbY := hbY.trans (gAl.mono hbY.size)
      have h0 := ownsRow_below h0 gAl
      clear gAl
      generalize U1.alloc (.cells #[] 2) = U14 at hHeld hbY h1 h0 ⊢
      generalize U1.heap.size = g1 at h1 ⊢
      try simp only [Act.put]
      try simp only [List.setIfInBounds_toArray]
      try simp only [List.set]
      refine wpAnyH_ready (rs := [5, 10]) (by kernel_rfl) (by simp) ?_
      refine AllReadyH.cons rfl (fun K hK => ?_) (AllReadyH.cons rfl (fun K hK => ?_) (AllReadyH.nil))
      · rw [if_pos (by kernel_rfl)]
        refine wp_append_sl elC _ _ _ rfl Y.heap.size _ [] us ua un uc rfl rfl HU.out.1 h0 (HR0.out _ hHeld.2) (by rw [HU.out.1]; simp; omega) hbY.size ?_
        intro v0 U15 ho hg _
        have hgB : Below Y.heap.size U14 U15 := Below.grown (Below.refl _ _) hg hbY.size (fun q e => (ownsRow_lo h0 q e).1)
        refine hK.out _ _ ⟨hHeld.1.below hgB hkY, hHeld.2.trans (hgB.mono hwY)⟩ (fun hHeld => ?_)
        clear hK K
        have hbY := hbY.trans hgB
        have h1 := owns_grow h1 h0 (by decide) hg
        have ho : U15.ownsRow Y.heap.size 61 10 v0 us.length (flat chE us) := ho
        clear h0 hg hgB
        obtain ⟨a0, c0, e0, _⟩ := SlIn.ofRow chE_len ho
        rw [HU.out.1] at e0
        subst e0
        have h0 := ho
        clear ho
        try simp only [Act.put]
        try simp only [List.setIfInBounds_toArray]
        try simp only [List.set]
        refine wpAnyH_ready (rs := [9, 10]) (by kernel_rfl) (by simp) ?_
        refine AllReadyH.cons rfl (fun K hK => ?_) (AllReadyH.cons rfl (fun K hK => ?_) (AllReadyH.nil))
        · rw [if_pos (by kernel_rfl)]
          refine wp_append_sl elI _ _ _ rfl Y.heap.size _ [] ms ma mn mc rfl rfl HU.out.2.1 h1 (HR1.out _ hHeld.2) (by rw [HU.out.2.1]; simp; omega) hbY.size ?_
          intro v1 U16 ho hg _
          have hgB : Below Y.heap.size U15 U16 := Below.grown (Below.refl _ _) hg hbY.size (fun q e => (ownsRow_lo h1 q e).1)
          refine hK.out _ _ ⟨hHeld.1.below hgB hkY, hHeld.2.trans (hgB.mono hwY)⟩ (fun hHeld => ?_)
          clear hK K
          have hbY := hbY.trans hgB
          have h0 := owns_grow h0 h1 (by decide) hg
          have ho : U16.ownsRow Y.heap.size 2 1 v1 ms.length (flat inE ms) := ho
          clear h1 hg hgB
          obtain ⟨a1, c1, e1, _⟩ := SlIn.ofRow inE_len ho
          rw [HU.out.2.1] at e1
          subst e1
          have h1 := ho
          clear ho
          try simp only [Act.put]
          try simp only [List.setIfInBounds_toArray]
          try simp only [List.set]
          refine wpAnyH_ready (rs := [10]) (by kernel_rfl) (by simp) ?_
          refine AllReadyH.cons rfl (fun K hK => ?_) (AllReadyH.nil)
          have gAl : Below U16.heap.size U16 (U16.alloc (.cells #[] 89)) := by go_grown
          have h2 : (U16.alloc (.cells #[] 89)).ownsRow Y.heap.size 89 2 (.slice (some ⟨U16.heap.size, 0, none⟩) 0 0) ([] : List K2).length (flat kyE []) := ownsRow_base (own_litN U16 89 2) hbY.size
          go_simp
          refine hK.out _ _ ⟨hHeld.1.below gAl hHeld.1.lt, hHeld.2.trans (gAl.mono hHeld.2.size)⟩ (fun hHeld => ?_)
          clear hK K
          have hbY := hbY.trans (gAl.mono hbY.size)
          have h0 := ownsRow_below h0 gAl
          have h1 := ownsRow_below h1 gAl
          clear gAl
          generalize U16.alloc (.cells #[] 89) = U17 at hHeld hbY h2 h0 h1 ⊢
          generalize U16.heap.size = g2 at h2 ⊢
          try simp only [Act.put]
          try simp only [List.setIfInBounds_toArray]
          try simp only [List.set]
          refine wpAnyH_ready (rs := [13]) (by kernel_rfl) (by simp) ?_
          refine AllReadyH.cons rfl (fun K hK => ?_) (AllReadyH.nil)
          rw [if_pos (by kernel_rfl)]
          refine wp_append_sl elKs _ _ _ rfl Y.heap.size _ [] ls la ln lc rfl rfl HU.out.2.2 h2 (HR2.out _ hHeld.2) (by rw [HU.out.2.2]; simp; omega) hbY.size ?_
          intro v2 U18 ho hg _
          have hgB : Below Y.heap.size U17 U18 := Below.grown (Below.refl _ _) hg hbY.size (fun q e => (ownsRow_lo h2 q e).1)
          refine hK.out _ _ ⟨hHeld.1.below hgB hkY, hHeld.2.trans (hgB.mono hwY)⟩ (fun hHeld => ?_)
          clear hK K
          have hbY := hbY.trans hgB
          have h0 := owns_grow h0 h2 (by decide) hg
          have h1 := owns_grow h1 h2 (by decide) hg
          have ho : U18.ownsRow Y.heap.size 89 2 v2 ls.length (flat kyE ls) := ho
          clear h2 hg hgB
          obtain ⟨a2, c2, e2, _⟩ := SlIn.ofRow kyE_len ho
          rw [HU.out.2.2] at e2
          subst e2
          have h2 := ho
          clear ho
          try simp only [Act.put]
          try simp only [List.setIfInBounds_toArray]
          try simp only [List.set]
          refine wpAnyH_take (i := 14) (v := ?v12) rfl (by kernel_rfl) (by kernel_rfl) (by kernel_rfl) (fun _ _ _ h => h) (Or.inl ⟨by kernel_rfl, ?h12⟩) hHeld ?_
          case h12 => intro u hSw; (obtain ⟨q0, q1, q2, q3⟩ := hSw.1); go_simp; try with_reducible rfl
          try simp only [List.getElem_toArray]
          try simp only [List.getElem_cons_succ]
          try simp only [List.getElem_cons_zero]
          try simp only [Act.put]
          try simp only [List.setIfInBounds_toArray]
          try simp only [List.set]
          obtain ⟨⟨z0, z1, z2, z3⟩, zf⟩ := HO.out _ hbY
          have f0 := zf 0
          have f1 := zf 1
          have f2 := zf 2
          have f3 := zf 3
          clear zf
          have T : Turned ob (ob + 1) U18 ((((U18.setCell ⟨ob, 0, none⟩ (.int .i64 id)).setCell ⟨ob, 1, none⟩ (.slice a0 un c0)).setCell ⟨ob, 2, none⟩ (.slice a1 mn c1)).setCell ⟨ob, 3, none⟩ (.slice a2 ln c2)) := ((((Turned.refl _ _ U18).setCell (p := ⟨ob, 0, none⟩) (Nat.le_refl _) (Nat.lt_succ_self _) _).setCell (p := ⟨ob, 1, none⟩) (Nat.le_refl _) (Nat.lt_succ_self _) _).setCell (p := ⟨ob, 2, none⟩) (Nat.le_refl _) (Nat.lt_succ_self _) _).setCell (p := ⟨ob, 3, none⟩) (Nat.le_refl _) (Nat.lt_succ_self _) _
          have HT : Hid (OneT Y.heap.size ((((U18.setCell ⟨ob, 0, none⟩ (.int .i64 id)).setCell ⟨ob, 1, none⟩ (.slice a0 un c0)).setCell ⟨ob, 2, none⟩ (.slice a1 mn c1)).setCell ⟨ob, 3, none⟩ (.slice a2 ln c2)) ⟨id, a0, un, c0, a1, mn, c1, a2, ln, c2⟩ ⟨id, us, ms, ls⟩) := fin1 T hob h0 h1 h2 HU.out.1 HU.out.2.1 HU.out.2.2
          refine wpAnyH_ready (rs := [15]) (by kernel_rfl) (by simp) ?_
          refine AllReadyH.cons rfl (fun K hK => ?_) AllReadyH.nil
          go_simp
          refine hK.out _ _ ⟨hHeld.1.other T hkob, hHeld.2.trans (T.toBelow hHeld.2.size hwob)⟩ (fun hHeld => ?_)
          clear hK K
          try simp only [Act.put]
          try simp only [List.setIfInBounds_toArray]
          try simp only [List.set]
          refine wpAnyH_done (by kernel_rfl) ?_ _
          have Z4 : T4 ((((U18.setCell ⟨ob, 0, none⟩ (.int .i64 id)).setCell ⟨ob, 1, none⟩ (.slice a0 un c0)).setCell ⟨ob, 2, none⟩ (.slice a1 mn c1)).setCell ⟨ob, 3, none⟩ (.slice a2 ln c2)) ob id a0 un c0 a1 mn c1 a2 ln c2 := ⟨by simp [go_sem, z0], by simp [go_sem, z1], by simp [go_sem, z2], by simp [go_sem, z3]⟩
          have g := hHeld.2
          clear hHeld T z0 z1 z2 z3 f0 f1 f2 f3 h0 h1 h2 hbY
          generalize ((((U18.setCell ⟨ob, 0, none⟩ (.int .i64 id)).setCell ⟨ob, 1, none⟩ (.slice a0 un c0)).setCell ⟨ob, 2, none⟩ (.slice a1 mn c1)).setCell ⟨ob, 3, none⟩ (.slice a2 ln c2)) = W at HT Z4 g ⊢
          obtain ⟨z0, z1, z2, z3⟩ := Z4
          go_wp2_with fail
          refine bodyPost_ret (v := .agg #[.int .i64 id, .slice a0 un c0, .slice a1 mn c1, .slice a2 ln c2]) (by simp [results, Try.results157, go_sem, *]) rfl ?_
          exact ⟨a0, c0, a1, c1, a2, c2, rfl, g, HT.out.base hwY⟩
        · have gAl : Below U15.heap.size U15 (U15.alloc (.cells #[] 89)) := by go_grown
          have h2 : (U15.alloc (.cells #[] 89)).ownsRow Y.heap.size 89 2 (.slice (some ⟨U15.heap.size, 0, none⟩) 0 0) ([] : List K2).length (flat kyE []) := ownsRow_base (own_litN U15 89 2) hbY.size
          go_simp
          refine hK.out _ _ ⟨hHeld.1.below gAl hHeld.1.lt, hHeld.2.trans (gAl.mono hHeld.2.size)⟩ (fun hHeld => ?_)
          clear hK K
          have hbY := hbY.trans (gAl.mono hbY.size)
          have h0 := ownsRow_below h0 gAl
          have h1 := ownsRow_below h1 gAl
          clear gAl
          generalize U15.alloc (.cells #[] 89) = U19 at hHeld hbY h2 h0 h1 ⊢
          generalize U15.heap.size = g2 at h2 ⊢
          try simp only [Act.put]
          try simp only [List.setIfInBounds_toArray]
          try simp only [List.set]
          refine wpAnyH_ready (rs := [9]) (by kernel_rfl) (by simp) ?_
          refine AllReadyH.cons rfl (fun K hK => ?_) (AllReadyH.nil)
          rw [if_pos (by kernel_rfl)]
          refine wp_append_sl elI _ _ _ rfl Y.heap.size _ [] ms ma mn mc rfl rfl HU.out.2.1 h1 (HR1.out _ hHeld.2) (by rw [HU.out.2.1]; simp; omega) hbY.size ?_
          intro v1 U20 ho hg _
          have hgB : Below Y.heap.size U19 U20 := Below.grown (Below.refl _ _) hg hbY.size (fun q e => (ownsRow_lo h1 q e).1)
          refine hK.out _ _ ⟨hHeld.1.below hgB hkY, hHeld.2.trans (hgB.mono hwY)⟩ (fun hHeld => ?_)
          clear hK K
          have hbY := hbY.trans hgB
          have h0 := owns_grow h0 h1 (by decide) hg
          have h2 := owns_grow h2 h1 (by decide) hg
          have ho : U20.ownsRow Y.heap.size 2 1 v1 ms.length (flat inE ms) := ho
          clear h1 hg hgB
          obtain ⟨a1, c1, e1, _⟩ := SlIn.ofRow inE_len ho
          rw [HU.out.2.1] at e1
          subst e1
          have h1 := ho
          clear ho
          try simp only [Act.put]
          try simp only [List.setIfInBounds_toArray]
          try simp only [List.set]
          refine wpAnyH_ready (rs := [13]) (by kernel_rfl) (by simp) ?_
          refine AllReadyH.cons rfl (fun K hK => ?_) (AllReadyH.nil)
          rw [if_pos (by kernel_rfl)]
          refine wp_append_sl elKs _ _ _ rfl Y.heap.size _ [] ls la ln lc rfl rfl HU.out.2.2 h2 (HR2.out _ hHeld.2) (by rw [HU.out.2.2]; simp; omega) hbY.size ?_
          intro v2 U21 ho hg _
          have hgB : Below Y.heap.size U20 U21 := Below.grown (Below.refl _ _) hg hbY.size (fun q e => (ownsRow_lo h2 q e).1)
          refine hK.out _ _ ⟨hHeld.1.below hgB hkY, hHeld.2.trans (hgB.mono hwY)⟩ (fun hHeld => ?_)
          clear hK K
          have hbY := hbY.trans hgB
          have h0 := owns_grow h0 h2 (by decide) hg
          have h1 := owns_grow h1 h2 (by decide) hg
          have ho : U21.ownsRow Y.heap.size 89 2 v2 ls.length (flat kyE ls) := ho
          clear h2 hg hgB
          obtain ⟨a2, c2, e2, _⟩ := SlIn.ofRow kyE_len ho
          rw [HU.out.2.2] at e2
          subst e2
          have h2 := ho
          clear ho
          try simp only [Act.put]
          try simp only [List.setIfInBounds_toArray]
          try simp only [List.set]
          refine wpAnyH_take (i := 14) (v := ?v13) rfl (by kernel_rfl) (by kernel_rfl) (by kernel_rfl) (fun _ _ _ h => h) (Or.inl ⟨by kernel_rfl, ?h13⟩) hHeld ?_
          case h13 => intro u hSw; (obtain ⟨q0, q1, q2, q3⟩ := hSw.1); go_simp; try with_reducible rfl
          try simp only [List.getElem_toArray]
          try simp only [List.getElem_cons_succ]
          try simp only [List.getElem_cons_zero]
          try simp only [Act.put]
          try simp only [List.setIfInBounds_toArray]
          try simp only [List.set]
          obtain ⟨⟨z0, z1, z2, z3⟩, zf⟩ := HO.out _ hbY
          have f0 := zf 0
          have f1 := zf 1
          have f2 := zf 2
          have f3 := zf 3
          clear zf
          have T : Turned ob (ob + 1) U21 ((((U21.setCell ⟨ob, 0, none⟩ (.int .i64 id)).setCell ⟨ob, 1, none⟩ (.slice a0 un c0)).setCell ⟨ob, 2, none⟩ (.slice a1 mn c1)).setCell ⟨ob, 3, none⟩ (.slice a2 ln c2)) := ((((Turned.refl _ _ U21).setCell (p := ⟨ob, 0, none⟩) (Nat.le_refl _) (Nat.lt_succ_self _) _).setCell (p := ⟨ob, 1, none⟩) (Nat.le_refl _) (Nat.lt_succ_self _) _).setCell (p := ⟨ob, 2, none⟩) (Nat.le_refl _) (Nat.lt_succ_self _) _).setCell (p := ⟨ob, 3, none⟩) (Nat.le_refl _) (Nat.lt_succ_self _) _
          have HT : Hid (OneT Y.heap.size ((((U21.setCell ⟨ob, 0, none⟩ (.int .i64 id)).setCell ⟨ob, 1, none⟩ (.slice a0 un c0)).setCell ⟨ob, 2, none⟩ (.slice a1 mn c1)).setCell ⟨ob, 3, none⟩ (.slice a2 ln c2)) ⟨id, a0, un, c0, a1, mn, c1, a2, ln, c2⟩ ⟨id, us, ms, ls⟩) := fin1 T hob h0 h1 h2 HU.out.1 HU.out.2.1 HU.out.2.2
          refine wpAnyH_ready (rs := [15]) (by kernel_rfl) (by simp) ?_
          refine AllReadyH.cons rfl (fun K hK => ?_) AllReadyH.nil
          go_simp
          refine hK.out _ _ ⟨hHeld.1.other T hkob, hHeld.2.trans (T.toBelow hHeld.2.size hwob)⟩ (fun hHeld => ?_)
          clear hK K
          try simp only [Act.put]
          try simp only [List.setIfInBounds_toArray]
          try simp only [List.set]
          refine wpAnyH_done (by kernel_rfl) ?_ _
          have Z4 : T4 ((((U21.setCell ⟨ob, 0, none⟩ (.int .i64 id)).setCell ⟨ob, 1, none⟩ (.slice a0 un c0)).setCell ⟨ob, 2, none⟩ (.slice a1 mn c1)).setCell ⟨ob, 3, none⟩ (.slice a2 ln c2)) ob id a0 un c0 a1 mn c1 a2 ln c2 := ⟨by simp [go_sem, z0], by simp [go_sem, z1], by simp [go_sem, z2], by simp [go_sem, z3]⟩
          have g := hHeld.2
          clear hHeld T z0 z1 z2 z3 f0 f1 f2 f3 h0 h1 h2 hbY
          generalize ((((U21.setCell ⟨ob, 0, none⟩ (.int .i64 id)).setCell ⟨ob, 1, none⟩ (.slice a0 un c0)).setCell ⟨ob, 2, none⟩ (.slice a1 mn c1)).setCell ⟨ob, 3, none⟩ (.slice a2 ln c2)) = W at HT Z4 g ⊢
          obtain ⟨z0, z1, z2, z3⟩ := Z4
          go_wp2_with fail
          refine bodyPost_ret (v := .agg #[.int .i64 id, .slice a0 un c0, .slice a1 mn c1, .slice a2 ln c2]) (by simp [results, Try.results157, go_sem, *]) rfl ?_
          exact ⟨a0, c0, a1, c1, a2, c2, rfl, g, HT.out.base hwY⟩
      · have gAl : Below U14.heap.size U14 (U14.alloc (.cells #[] 89)) := by go_grown
        have h2 : (U14.alloc (.cells #[] 89)).ownsRow Y.heap.size 89 2 (.slice (some ⟨U14.heap.size, 0, none⟩) 0 0) ([] : List K2).length (flat kyE []) := ownsRow_base (own_litN U14 89 2) hbY.size
        go_simp
        refine hK.out _ _ ⟨hHeld.1.below gAl hHeld.1.lt, hHeld.2.trans (gAl.mono hHeld.2.size)⟩ (fun hHeld => ?_)
        clear hK K
        have hbY := hbY.trans (gAl.mono hbY.size)
        have h0 := ownsRow_below h0 gAl
        have h1 := ownsRow_below h1 gAl
        clear gAl
        generalize U14.alloc (.cells #[] 89) = U22 at hHeld hbY h2 h0 h1 ⊢
        generalize U14.heap.size = g2 at h2 ⊢
        try simp only [Act.put]
        try simp only [List.setIfInBounds_toArray]
        try simp only [List.set]
        refine wpAnyH_ready (rs := [5]) (by kernel_rfl) (by simp) ?_
        refine AllReadyH.cons rfl (fun K hK => ?_) (AllReadyH.nil)
        rw [if_pos (by kernel_rfl)]
        refine wp_append_sl elC _ _ _ rfl Y.heap.size _ [] us ua un uc rfl rfl HU.out.1 h0 (HR0.out _ hHeld.2) (by rw [HU.out.1]; simp; omega) hbY.size ?_
        intro v0 U23 ho hg _
        have hgB : Below Y.heap.size U22 U23 := Below.grown (Below.refl _ _) hg hbY.size (fun q e => (ownsRow_lo h0 q e).1)
        refine hK.out _ _ ⟨hHeld.1.below hgB hkY, hHeld.2.trans (hgB.mono hwY)⟩ (fun hHeld => ?_)
        clear hK K
        have hbY := hbY.trans hgB
        have h1 := owns_grow h1 h0 (by decide) hg
        have h2 := owns_grow h2 h0 (by decide) hg
        have ho : U23.ownsRow Y.heap.size 61 10 v0 us.length (flat chE us) := ho
        clear h0 hg hgB
        obtain ⟨a0, c0, e0, _⟩ := SlIn.ofRow chE_len ho
        rw [HU.out.1] at e0
        subst e0
        have h0 := ho
        clear ho
        try simp only [Act.put]
        try simp only [List.setIfInBounds_toArray]
        try simp only [List.set]
        refine wpAnyH_ready (rs := [9]) (by kernel_rfl) (by simp) ?_
        refine AllReadyH.cons rfl (fun K hK => ?_) (AllReadyH.nil)
        rw [if_pos (by kernel_rfl)]
        refine wp_append_sl elI _ _ _ rfl Y.heap.size _ [] ms ma mn mc rfl rfl HU.out.2.1 h1 (HR1.out _ hHeld.2) (by rw [HU.out.2.1]; simp; omega) hbY.size ?_
        intro v1 U24 ho hg _
        have hgB : Below Y.heap.size U23 U24 := Below.grown (Below.refl _ _) hg hbY.size (fun q e => (ownsRow_lo h1 q e).1)
        refine hK.out _ _ ⟨hHeld.1.below hgB hkY, hHeld.2.trans (hgB.mono hwY)⟩ (fun hHeld => ?_)
        clear hK K
        have hbY := hbY.trans hgB
        have h0 := owns_grow h0 h1 (by decide) hg
        have h2 := owns_grow h2 h1 (by decide) hg
        have ho : U24.ownsRow Y.heap.size 2 1 v1 ms.length (flat inE ms) := ho
        clear h1 hg hgB
        obtain ⟨a1, c1, e1, _⟩ := SlIn.ofRow inE_len ho
        rw [HU.out.2.1] at e1
        subst e1
        have h1 := ho
        clear ho
        try simp only [Act.put]
        try simp only [List.setIfInBounds_toArray]
        try simp only [List.set]
        refine wpAnyH_ready (rs := [13]) (by kernel_rfl) (by simp) ?_
        refine AllReadyH.cons rfl (fun K hK => ?_) (AllReadyH.nil)
        rw [if_pos (by kernel_rfl)]
        refine wp_append_sl elKs _ _ _ rfl Y.heap.size _ [] ls la ln lc rfl rfl HU.out.2.2 h2 (HR2.out _ hHeld.2) (by rw [HU.out.2.2]; simp; omega) hbY.size ?_
        intro v2 U25 ho hg _
        have hgB : Below Y.heap.size U24 U25 := Below.grown (Below.refl _ _) hg hbY.size (fun q e => (ownsRow_lo h2 q e).1)
        refine hK.out _ _ ⟨hHeld.1.below hgB hkY, hHeld.2.trans (hgB.mono hwY)⟩ (fun hHeld => ?_)
        clear hK K
        have hbY := hbY.trans hgB
        have h0 := owns_grow h0 h2 (by decide) hg
        have h1 := owns_grow h1 h2 (by decide) hg
        have ho : U25.ownsRow Y.heap.size 89 2 v2 ls.length (flat kyE ls) := ho
        clear h2 hg hgB
        obtain ⟨a2, c2, e2, _⟩ := SlIn.ofRow kyE_len ho
        rw [HU.out.2.2] at e2
        subst e2
        have h2 := ho
        clear ho
        try simp only [Act.put]
        try simp only [List.setIfInBounds_toArray]
        try simp only [List.set]
        refine wpAnyH_take (i := 14) (v := ?v14) rfl (by kernel_rfl) (by kernel_rfl) (by kernel_rfl) (fun _ _ _ h => h) (Or.inl ⟨by kernel_rfl, ?h14⟩) hHeld ?_
        case h14 => intro u hSw; (obtain ⟨q0, q1, q2, q3⟩ := hSw.1); go_simp; try with_reducible rfl
        try simp only [List.getElem_toArray]
        try simp only [List.getElem_cons_succ]
        try simp only [List.getElem_cons_zero]
        try simp only [Act.put]
        try simp only [List.setIfInBounds_toArray]
        try simp only [List.set]
        obtain ⟨⟨z0, z1, z2, z3⟩, zf⟩ := HO.out _ hbY
        have f0 := zf 0
        have f1 := zf 1
        have f2 := zf 2
        have f3 := zf 3
        clear zf
        have T : Turned ob (ob + 1) U25 ((((U25.setCell ⟨ob, 0, none⟩ (.int .i64 id)).setCell ⟨ob, 1, none⟩ (.slice a0 un c0)).setCell ⟨ob, 2, none⟩ (.slice a1 mn c1)).setCell ⟨ob, 3, none⟩ (.slice a2 ln c2)) := ((((Turned.refl _ _ U25).setCell (p := ⟨ob, 0, none⟩) (Nat.le_refl _) (Nat.lt_succ_self _) _).setCell (p := ⟨ob, 1, none⟩) (Nat.le_refl _) (Nat.lt_succ_self _) _).setCell (p := ⟨ob, 2, none⟩) (Nat.le_refl _) (Nat.lt_succ_self _) _).setCell (p := ⟨ob, 3, none⟩) (Nat.le_refl _) (Nat.lt_succ_self _) _
        have HT : Hid (OneT Y.heap.size ((((U25.setCell ⟨ob, 0, none⟩ (.int .i64 id)).setCell ⟨ob, 1, none⟩ (.slice a0 un c0)).setCell ⟨ob, 2, none⟩ (.slice a1 mn c1)).setCell ⟨ob, 3, none⟩ (.slice a2 ln c2)) ⟨id, a0, un, c0, a1, mn, c1, a2, ln, c2⟩ ⟨id, us, ms, ls⟩) := fin1 T hob h0 h1 h2 HU.out.1 HU.out.2.1 HU.out.2.2
        refine wpAnyH_ready (rs := [15]) (by kernel_rfl) (by simp) ?_
        refine AllReadyH.cons rfl (fun K hK => ?_) AllReadyH.nil
        go_simp
        refine hK.out _ _ ⟨hHeld.1.other T hkob, hHeld.2.trans (T.toBelow hHeld.2.size hwob)⟩ (fun hHeld => ?_)
        clear hK K
        try simp only [Act.put]
        try simp only [List.setIfInBounds_toArray]
        try simp only [List.set]
        refine wpAnyH_done (by kernel_rfl) ?_ _
        have Z4 : T4 ((((U25.setCell ⟨ob, 0, none⟩ (.int .i64 id)).setCell ⟨ob, 1, none⟩ (.slice a0 un c0)).setCell ⟨ob, 2, none⟩ (.slice a1 mn c1)).setCell ⟨ob, 3, none⟩ (.slice a2 ln c2)) ob id a0 un c0 a1 mn c1 a2 ln c2 := ⟨by simp [go_sem, z0], by simp [go_sem, z1], by simp [go_sem, z2], by simp [go_sem, z3]⟩
        have g := hHeld.2
        clear hHeld T z0 z1 z2 z3 f0 f1 f2 f3 h0 h1 h2 hbY
        generalize ((((U25.setCell ⟨ob, 0, none⟩ (.int .i64 id)).setCell ⟨ob, 1, none⟩ (.slice a0 un c0)).setCell ⟨ob, 2, none⟩ (.slice a1 mn c1)).setCell ⟨ob, 3, none⟩ (.slice a2 ln c2)) = W at HT Z4 g ⊢
        obtain ⟨z0, z1, z2, z3⟩ := Z4
        go_wp2_with fail
        refine bodyPost_ret (v := .agg #[.int .i64 id, .slice a0 un c0, .slice a1 mn c1, .slice a2 ln c2]) (by simp [results, Try.results157, go_sem, *]) rfl ?_
        exact ⟨a0, c0, a1, c1, a2, c2, rfl, g, HT.out.base hwY⟩
    · have gAl : Below U1.heap.size U1 (U1.alloc (.cells #[] 89)) := by go_grown
      have h2 : (U1.alloc (.cells #[] 89)).ownsRow Y.heap.size 89 2 (.slice (some ⟨U1.heap.size, 0, none⟩) 0 0) ([] : List K2).length (flat kyE []) := ownsRow_base (own_litN U1 89 2) hbY.size
      go_simp
      refine hK.out _ _ ⟨hHeld.1.below gAl hHeld.1.lt, hHeld.2.trans (gAl.mono hHeld.2.size)⟩ (fun hHeld => ?_)
      clear hK K
      have hbY := hbY.trans (gAl.mono hbY.size)
      have h0 := ownsRow_below h0 gAl
      clear gAl
      generalize U1.alloc (.cells #[] 89) = U26 at hHeld hbY h2 h0 ⊢
      generalize U1.heap.size = g2 at h2 ⊢
      try simp only [Act.put]
      try simp only [List.setIfInBounds_toArray]
      try simp only [List.set]
      refine wpAnyH_ready (rs := [5, 6]) (by kernel_rfl) (by simp) ?_
      refine AllReadyH.cons rfl (fun K hK => ?_) (AllReadyH.cons rfl (fun K hK => ?_) (AllReadyH.nil))
      · rw [if_pos (by kernel_rfl)]
        refine wp_append_sl elC _ _ _ rfl Y.heap.size _ [] us ua un uc rfl rfl HU.out.1 h0 (HR0.out _ hHeld.2) (by rw [HU.out.1]; simp; omega) hbY.size ?_
        intro v0 U27 ho hg _
        have hgB : Below Y.heap.size U26 U27 := Below.grown (Below.refl _ _) hg hbY.size (fun q e => (ownsRow_lo h0 q e).1)
        refine hK.out _ _ ⟨hHeld.1.below hgB hkY, hHeld.2.trans (hgB.mono hwY)⟩ (fun hHeld => ?_)
        clear hK K
        have hbY := hbY.trans hgB
        have h2 := owns_grow h2 h0 (by decide) hg
        have ho : U27.ownsRow Y.heap.size 61 10 v0 us.length (flat chE us) := ho
        clear h0 hg hgB
        obtain ⟨a0, c0, e0, _⟩ := SlIn.ofRow chE_len ho
        rw [HU.out.1] at e0
        subst e0
        have h0 := ho
        clear ho
        try simp only [Act.put]
        try simp only [List.setIfInBounds_toArray]
        try simp only [List.set]
        refine wpAnyH_ready (rs := [6]) (by kernel_rfl) (by simp) ?_
        refine AllReadyH.cons rfl (fun K hK => ?_) (AllReadyH.nil)
        have gAl : Below U27.heap.size U27 (U27.alloc (.cells #[] 2)) := by go_grown
        have h1 : (U27.alloc (.cells #[] 2)).ownsRow Y.heap.size 2 1 (.slice (some ⟨U27.heap.size, 0, none⟩) 0 0) ([] : List Int).length (flat inE []) := ownsRow_base (own_litN U27 2 1) hbY.size
        go_simp
        refine hK.out _ _ ⟨hHeld.1.below gAl hHeld.1.lt, hHeld.2.trans (gAl.mono hHeld.2.size)⟩ (fun hHeld => ?_)
        clear hK K
        have hbY := hbY.trans (gAl.mono hbY.size)
        have h0 := ownsRow_below h0 gAl
        have h2 := ownsRow_below h2 gAl
        clear gAl
        generalize U27.alloc (.cells #[] 2) = U28 at hHeld hbY h1 h0 h2 ⊢
        generalize U27.heap.size = g1 at h1 ⊢
        try simp only [Act.put]
        try simp only [List.setIfInBounds_toArray]
        try simp only [List.set]
        refine wpAnyH_ready (rs := [9]) (by kernel_rfl) (by simp) ?_
        refine AllReadyH.cons rfl (fun K hK => ?_) (AllReadyH.nil)
        rw [if_pos (by kernel_rfl)]
        refine wp_append_sl elI _ _ _ rfl Y.heap.size _ [] ms ma mn mc rfl rfl HU.out.2.1 h1 (HR1.out _ hHeld.2) (by rw [HU.out.2.1]; simp; omega) hbY.size ?_
        intro v1 U29 ho hg _
        have hgB : Below Y.heap.size U28 U29 := Below.grown (Below.refl _ _) hg hbY.size (fun q e => (ownsRow_lo h1 q e).1)
        refine hK.out _ _ ⟨hHeld.1.below hgB hkY, hHeld.2.trans (hgB.mono hwY)⟩ (fun hHeld => ?_)
        clear hK K
        have hbY := hbY.trans hgB
        have h0 := owns_grow h0 h1 (by decide) hg
        have h2 := owns_grow h2 h1 (by decide) hg
        have ho : U29.ownsRow Y.heap.size 2 1 v1 ms.length (flat inE ms) := ho
        clear h1 hg hgB
        obtain ⟨a1, c1, e1, _⟩ := SlIn.ofRow inE_len ho
        rw [HU.out.2.1] at e1
        subst e1
        have h1 := ho
        clear ho
        try simp only [Act.put]
        try simp only [List.setIfInBounds_toArray]
        try simp only [List.set]
        refine wpAnyH_ready (rs := [13]) (by kernel_rfl) (by simp) ?_
        refine AllReadyH.cons rfl (fun K hK => ?_) (AllReadyH.nil)
        rw [if_pos (by kernel_rfl)]
        refine wp_append_sl elKs _ _ _ rfl Y.heap.size _ [] ls la ln lc rfl rfl HU.out.2.2 h2 (HR2.out _ hHeld.2) (by rw [HU.out.2.2]; simp; omega) hbY.size ?_
        intro v2 U30 ho hg _
        have hgB : Below Y.heap.size U29 U30 := Below.grown (Below.refl _ _) hg hbY.size (fun q e => (ownsRow_lo h2 q e).1)
        refine hK.out _ _ ⟨hHeld.1.below hgB hkY, hHeld.2.trans (hgB.mono hwY)⟩ (fun hHeld => ?_)
        clear hK K
        have hbY := hbY.trans hgB
        have h0 := owns_grow h0 h2 (by decide) hg
        have h1 := owns_grow h1 h2 (by decide) hg
        have ho : U30.ownsRow Y.heap.size 89 2 v2 ls.length (flat kyE ls) := ho
        clear h2 hg hgB
        obtain ⟨a2, c2, e2, _⟩ := SlIn.ofRow kyE_len ho
        rw [HU.out.2.2] at e2
        subst e2
        have h2 := ho
        clear ho
        try simp only [Act.put]
        try simp only [List.setIfInBounds_toArray]
        try simp only [List.set]
        refine wpAnyH_take (i := 14) (v := ?v15) rfl (by kernel_rfl) (by kernel_rfl) (by kernel_rfl) (fun _ _ _ h => h) (Or.inl ⟨by kernel_rfl, ?h15⟩) hHeld ?_
        case h15 => intro u hSw; (obtain ⟨q0, q1, q2, q3⟩ := hSw.1); go_simp; try with_reducible rfl
        try simp only [List.getElem_toArray]
        try simp only [List.getElem_cons_succ]
        try simp only [List.getElem_cons_zero]
        try simp only [Act.put]
        try simp only [List.setIfInBounds_toArray]
        try simp only [List.set]
        obtain ⟨⟨z0, z1, z2, z3⟩, zf⟩ := HO.out _ hbY
        have f0 := zf 0
        have f1 := zf 1
        have f2 := zf 2
        have f3 := zf 3
        clear zf
        have T : Turned ob (ob + 1) U30 ((((U30.setCell ⟨ob, 0, none⟩ (.int .i64 id)).setCell ⟨ob, 1, none⟩ (.slice a0 un c0)).setCell ⟨ob, 2, none⟩ (.slice a1 mn c1)).setCell ⟨ob, 3, none⟩ (.slice a2 ln c2)) := ((((Turned.refl _ _ U30).setCell (p := ⟨ob, 0, none⟩) (Nat.le_refl _) (Nat.lt_succ_self _) _).setCell (p := ⟨ob, 1, none⟩) (Nat.le_refl _) (Nat.lt_succ_self _) _).setCell (p := ⟨ob, 2, none⟩) (Nat.le_refl _) (Nat.lt_succ_self _) _).setCell (p := ⟨ob, 3, none⟩) (Nat.le_refl _) (Nat.lt_succ_self _) _
        have HT : Hid (OneT Y.heap.size ((((U30.setCell ⟨ob, 0, none⟩ (.int .i64 id)).setCell ⟨ob, 1, none⟩ (.slice a0 un c0)).setCell ⟨ob, 2, none⟩ (.slice a1 mn c1)).setCell ⟨ob, 3, none⟩ (.slice a2 ln c2)) ⟨id, a0, un, c0, a1, mn, c1, a2, ln, c2⟩ ⟨id, us, ms, ls⟩) := fin1 T hob h0 h1 h2 HU.out.1 HU.out.2.1 HU.out.2.2
        refine wpAnyH_ready (rs := [15]) (by kernel_rfl) (by simp) ?_
        refine AllReadyH.cons rfl (fun K hK => ?_) AllReadyH.nil
        go_simp
        refine hK.out _ _ ⟨hHeld.1.other T hkob, hHeld.2.trans (T.toBelow hHeld.2.size hwob)⟩ (fun hHeld => ?_)
        clear hK K
        try simp only [Act.put]
        try simp only [List.setIfInBounds_toArray]
        try simp only [List.set]
        refine wpAnyH_done (by kernel_rfl) ?_ _
        have Z4 : T4 ((((U30.setCell ⟨ob, 0, none⟩ (.int .i64 id)).setCell ⟨ob, 1, none⟩ (.slice a0 un c0)).setCell ⟨ob, 2, none⟩ (.slice a1 mn c1)).setCell ⟨ob, 3, none⟩ (.slice a2 ln c2)) ob id a0 un c0 a1 mn c1 a2 ln c2 := ⟨by simp [go_sem, z0], by simp [go_sem, z1], by simp [go_sem, z2], by simp [go_sem, z3]⟩
        have g := hHeld.2
        clear hHeld T z0 z1 z2 z3 f0 f1 f2 f3 h0 h1 h2 hbY
        generalize ((((U30.setCell ⟨ob, 0, none⟩ (.int .i64 id)).setCell ⟨ob, 1, none⟩ (.slice a0 un c0)).setCell ⟨ob, 2, none⟩ (.slice a1 mn c1)).setCell ⟨ob, 3, none⟩ (.slice a2 ln c2)) = W at HT Z4 g ⊢
        obtain ⟨z0, z1, z2, z3⟩ := Z4
        go_wp2_with fail
        refine bodyPost_ret (v := .agg #[.int .i64 id, .slice a0 un c0, .slice a1 mn c1, .slice a2 ln c2]) (by simp [results, Try.results157, go_sem, *]) rfl ?_
        exact ⟨a0, c0, a1, c1, a2, c2, rfl, g, HT.out.base hwY⟩
      · have gAl : Below U26.heap.size U26 (U26.alloc (.cells #[] 2)) := by go_grown
        have h1 : (U26.alloc (.cells #[] 2)).ownsRow Y.heap.size 2 1 (.slice (some ⟨U26.heap.size, 0, none⟩) 0 0) ([] : List Int).length (flat inE []) := ownsRow_base (own_litN U26 2 1) hbY.size
        go_simp
        refine hK.out _ _ ⟨hHeld.1.below gAl hHeld.1.lt, hHeld.2.trans (gAl.mono hHeld.2.size)⟩ (fun hHeld => ?_)
        clear hK K
        have hbY := hbY.trans (gAl.mono hbY.size)
        have h0 := ownsRow_below h0 gAl
        have h2 := ownsRow_below h2 gAl
        clear gAl
        generalize U26.alloc (.cells #[] 2) = U31 at hHeld hbY h1 h0 h2 ⊢
        generalize U26.heap.size = g1 at h1 ⊢
        try simp only [Act.put]
        try simp only [List.setIfInBounds_toArray]
        try simp only [List.set]
        refine wpAnyH_ready (rs := [5]) (by kernel_rfl) (by simp) ?_
        refine AllReadyH.cons rfl (fun K hK => ?_) (AllReadyH.nil)
        rw [if_pos (by kernel_rfl)]
        refine wp_append_sl elC _ _ _ rfl Y.heap.size _ [] us ua un uc rfl rfl HU.out.1 h0 (HR0.out _ hHeld.2) (by rw [HU.out.1]; simp; omega) hbY.size ?_
        intro v0 U32 ho hg _
        have hgB : Below Y.heap.size U31 U32 := Below.grown (Below.refl _ _) hg hbY.size (fun q e => (ownsRow_lo h0 q e).1)
        refine hK.out _ _ ⟨hHeld.1.below hgB hkY, hHeld.2.trans (hgB.mono hwY)⟩ (fun hHeld => ?_)
        clear hK K
        have hbY := hbY.trans hgB
        have h1 := owns_grow h1 h0 (by decide) hg
        have h2 := owns_grow h2 h0 (by decide) hg
        have ho : U32.ownsRow Y.heap.size 61 10 v0 us.length (flat chE us) := ho
        clear h0 hg hgB
        obtain ⟨a0, c0, e0, _⟩ := SlIn.ofRow chE_len ho
        rw [HU.out.1] at e0
        subst e0
        have h0 := ho
        clear ho
        try simp only [Act.put]
        try simp only [List.setIfInBounds_toArray]
        try simp only [List.set]
        refine wpAnyH_ready (rs := [9]) (by kernel_rfl) (by simp) ?_
        refine AllReadyH.cons rfl (fun K hK => ?_) (AllReadyH.nil)
        rw [if_pos (by kernel_rfl)]
        refine wp_append_sl elI _ _ _ rfl Y.heap.size _ [] ms ma mn mc rfl rfl HU.out.2.1 h1 (HR1.out _ hHeld.2) (by rw [HU.out.2.1]; simp; omega) hbY.size ?_
        intro v1 U33 ho hg _
        have hgB : Below Y.heap.size U32 U33 := Below.grown (Below.refl _ _) hg hbY.size (fun q e => (ownsRow_lo h1 q e).1)
        refine hK.out _ _ ⟨hHeld.1.below hgB hkY, hHeld.2.trans (hgB.mono hwY)⟩ (fun hHeld => ?_)
        clear hK K
        have hbY := hbY.trans hgB
        have h0 := owns_grow h0 h1 (by decide) hg
        have h2 := owns_grow h2 h1 (by decide) hg
        have ho : U33.ownsRow Y.heap.size 2 1 v1 ms.length (flat inE ms) := ho
        clear h1 hg hgB
        obtain ⟨a1, c1, e1, _⟩ := SlIn.ofRow inE_len ho
        rw [HU.out.2.1] at e1
        subst e1
        have h1 := ho
        clear ho
        try simp only [Act.put]
        try simp only [List.setIfInBounds_toArray]
        try simp only [List.set]
        refine wpAnyH_ready (rs := [13]) (by kernel_rfl) (by simp) ?_
        refine AllReadyH.cons rfl (fun K hK => ?_) (AllReadyH.nil)
        rw [if_pos (by kernel_rfl)]
        refine wp_append_sl elKs _ _ _ rfl Y.heap.size _ [] ls la ln lc rfl rfl HU.out.2.2 h2 (HR2.out _ hHeld.2) (by rw [HU.out.2.2]; simp; omega) hbY.size ?_
        intro v2 U34 ho hg _
        have hgB : Below Y.heap.size U33 U34 := Below.grown (Below.refl _ _) hg hbY.size (fun q e => (ownsRow_lo h2 q e).1)
        refine hK.out _ _ ⟨hHeld.1.below hgB hkY, hHeld.2.trans (hgB.mono hwY)⟩ (fun hHeld => ?_)
        clear hK K
        have hbY := hbY.trans hgB
        have h0 := owns_grow h0 h2 (by decide) hg
        have h1 := owns_grow h1 h2 (by decide) hg
        have ho : U34.ownsRow Y.heap.size 89 2 v2 ls.length (flat kyE ls) := ho
        clear h2 hg hgB
        obtain ⟨a2, c2, e2, _⟩ := SlIn.ofRow kyE_len ho
        rw [HU.out.2.2] at e2
        subst e2
        have h2 := ho
        clear ho
        try simp only [Act.put]
        try simp only [List.setIfInBounds_toArray]
        try simp only [List.set]
        refine wpAnyH_take (i := 14) (v := ?v16) rfl (by kernel_rfl) (by kernel_rfl) (by kernel_rfl) (fun _ _ _ h => h) (Or.inl ⟨by kernel_rfl, ?h16⟩) hHeld ?_
        case h16 => intro u hSw; (obtain ⟨q0, q1, q2, q3⟩ := hSw.1); go_simp; try with_reducible rfl
        try simp only [List.getElem_toArray]
        try simp only [List.getElem_cons_succ]
        try simp only [List.getElem_cons_zero]
        try simp only [Act.put]
        try simp only [List.setIfInBounds_toArray]
        try simp only [List.set]
        obtain ⟨⟨z0, z1, z2, z3⟩, zf⟩ := HO.out _ hbY
        have f0 := zf 0
        have f1 := zf 1
        have f2 := zf 2
        have f3 := zf 3
        clear zf
        have T : Turned ob (ob + 1) U34 ((((U34.setCell ⟨ob, 0, none⟩ (.int .i64 id)).setCell ⟨ob, 1, none⟩ (.slice a0 un c0)).setCell ⟨ob, 2, none⟩ (.slice a1 mn c1)).setCell ⟨ob, 3, none⟩ (.slice a2 ln c2)) := ((((Turned.refl _ _ U34).setCell (p := ⟨ob, 0, none⟩) (Nat.le_refl _) (Nat.lt_succ_self _) _).setCell (p := ⟨ob, 1, none⟩) (Nat.le_refl _) (Nat.lt_succ_self _) _).setCell (p := ⟨ob, 2, none⟩) (Nat.le_refl _) (Nat.lt_succ_self _) _).setCell (p := ⟨ob, 3, none⟩) (Nat.le_refl _) (Nat.lt_succ_self _) _
        have HT : Hid (OneT Y.heap.size ((((U34.setCell ⟨ob, 0, none⟩ (.int .i64 id)).setCell ⟨ob, 1, none⟩ (.slice a0 un c0)).setCell ⟨ob, 2, none⟩ (.slice a1 mn c1)).setCell ⟨ob, 3, none⟩ (.slice a2 ln c2)) ⟨id, a0, un, c0, a1, mn, c1, a2, ln, c2⟩ ⟨id, us, ms, ls⟩) := fin1 T hob h0 h1 h2 HU.out.1 HU.out.2.1 HU.out.2.2
        refine wpAnyH_ready (rs := [15]) (by kernel_rfl) (by simp) ?_
        refine AllReadyH.cons rfl (fun K hK => ?_) AllReadyH.nil
        go_simp
        refine hK.out _ _ ⟨hHeld.1.other T hkob, hHeld.2.trans (T.toBelow hHeld.2.size hwob)⟩ (fun hHeld => ?_)
        clear hK K
        try simp only [Act.put]
        try simp only [List.setIfInBounds_toArray]
        try simp only [List.set]
        refine wpAnyH_done (by kernel_rfl) ?_ _
        have Z4 : T4 ((((U34.setCell ⟨ob, 0, none⟩ (.int .i64 id)).setCell ⟨ob, 1, none⟩ (.slice a0 un c0)).setCell ⟨ob, 2, none⟩ (.slice a1 mn c1)).setCell ⟨ob, 3, none⟩ (.slice a2 ln c2)) ob id a0 un c0 a1 mn c1 a2 ln c2 := ⟨by simp [go_sem, z0], by simp [go_sem, z1], by simp [go_sem, z2], by simp [go_sem, z3]⟩
        have g := hHeld.2
        clear hHeld T z0 z1 z2 z3 f0 f1 f2 f3 h0 h1 h2 hbY
        generalize ((((U34.setCell ⟨ob, 0, none⟩ (.int .i64 id)).setCell ⟨ob, 1, none⟩ (.slice a0 un c0)).setCell ⟨ob, 2, none⟩ (.slice a1 mn c1)).setCell ⟨ob, 3, none⟩ (.slice a2 ln c2)) = W at HT Z4 g ⊢
        obtain ⟨z0, z1, z2, z3⟩ := Z4
        go_wp2_with fail
        refine bodyPost_ret (v := .agg #[.int .i64 id, .slice a0 un c0, .slice a1 mn c1, .slice a2 ln c2]) (by simp [results, Try.results157, go_sem, *]) rfl ?_
        exact ⟨a0, c0, a1, c1, a2, c2, rfl, g, HT.out.base hwY⟩
  · have gAl : Below D.heap.size D (D.alloc (.cells #[] 2)) := by go_grown
    have h1 : (D.alloc (.cells #[] 2)).ownsRow Y.heap.size 2 1 (.slice (some ⟨D.heap.size, 0, none⟩) 0 0) ([] : List Int).length (flat inE []) := ownsRow_base (own_litN D 2 1) hbY.size
    go_simp
    refine hK.out _ _ ⟨hHeld.1.below gAl hHeld.1.lt, hHeld.2.trans (gAl.mono hHeld.2.size)⟩ (fun hHeld => ?_)
    clear hK K
    have hbY := hbY.trans (gAl.mono hbY.size)
    clear gAl
    generalize D.alloc (.cells #[] 2) = U35 at hHeld hbY h1  ⊢
    generalize D.heap.size = g1 at h1 ⊢
    try simp only [Act.put]
    try simp only [List.setIfInBounds_toArray]
    try simp only [List.set]
    refine wpAnyH_ready (rs := [2, 10]) (by kernel_rfl) (by simp) ?_
    refine AllReadyH.cons rfl (fun K hK => ?_) (AllReadyH.cons rfl (fun K hK => ?_) (AllReadyH.nil))
    · have gAl : Below U35.heap.size U35 (U35.alloc (.cells #[] 61)) := by go_grown
      have h0 : (U35.alloc (.cells #[] 61)).ownsRow Y.heap.size 61 10 (.slice (some ⟨U35.heap.size, 0, none⟩) 0 0) ([] : List Chg).length (flat chE []) := ownsRow_base (own_litN U35 61 10) hbY.size
      go_simp
      refine hK.out _ _ ⟨hHeld.1.below gAl hHeld.1.lt, hHeld.2.trans (gAl.mono hHeld.2.size)⟩ (fun hHeld => ?_)
      clear hK K
      have hbY := hbY.trans (gAl.mono hbY.size)
      have h1 := ownsRow_below h1 gAl
      clear gAl
      generalize U35.alloc (.cells #[] 61) = U36 at hHeld hbY h0 h1 ⊢
      generalize U35.heap.size = g0 at h0 ⊢
      try simp only [Act.put]
      try simp only [List.setIfInBounds_toArray]
      try simp only [List.set]
      refine wpAnyH_ready (rs := [5, 10]) (by kernel_rfl) (by simp) ?_
      refine AllReadyH.cons rfl (fun K hK => ?_) (AllReadyH.cons rfl (fun K hK => ?_) (AllReadyH.nil))
      · rw [if_pos (by kernel_rfl)]
        refine wp_append_sl elC _ _ _ rfl Y.heap.size _ [] us ua un uc rfl rfl HU.out.1 h0 (HR0.out _ hHeld.2) (by rw [HU.out.1]; simp; omega) hbY.size ?_
        intro v0 U37 ho hg _
        have hgB : Below Y.heap.size U36 U37 := Below.grown (Below.refl _ _) hg hbY.size (fun q e => (ownsRow_lo h0 q e).1)
        refine hK.out _ _ ⟨hHeld.1.below hgB hkY, hHeld.2.trans (hgB.mono hwY)⟩ (fun hHeld => ?_)
        clear hK K
        have hbY := hbY.trans hgB
        have h1 := owns_grow h1 h0 (by decide) hg
        have ho : U37.ownsRow Y.heap.size 61 10 v0 us.length (flat chE us) := ho
        clear h0 hg hgB
        obtain ⟨a0, c0, e0, _⟩ := SlIn.ofRow chE_len ho
        rw [HU.out.1] at e0
        subst e0
        have h0 := ho
        clear ho
        try simp only [Act.put]
        try simp only [List.setIfInBounds_toArray]
        try simp only [List.set]
        refine wpAnyH_ready (rs := [9, 10]) (by kernel_rfl) (by simp) ?_
        refine AllReadyH.cons rfl (fun K hK => ?_) (AllReadyH.cons rfl (fun K hK => ?_) (AllReadyH.nil))
        · rw [if_pos (by kernel_rfl)]
          refine wp_append_sl elI _ _ _ rfl Y.heap.size _ [] ms ma mn mc rfl rfl HU.out.2.1 h1 (HR1.out _ hHeld.2) (by rw [HU.out.2.1]; simp; omega) hbY.size ?_
          intro v1 U38 ho hg _
          have hgB : Below Y.heap.size U37 U38 := Below.grown (Below.refl _ _) hg hbY.size (fun q e => (ownsRow_lo h1 q e).1)
          refine hK.out _ _ ⟨hHeld.1.below hgB hkY, hHeld.2.trans (hgB.mono hwY)⟩ (fun hHeld => ?_)
          clear hK K
          have hbY := hbY.trans hgB
          have h0 := owns_grow h0 h1 (by decide) hg
          have ho : U38.ownsRow Y.heap.size 2 1 v1 ms.length (flat inE ms) := ho
          clear h1 hg hgB
          obtain ⟨a1, c1, e1, _⟩ := SlIn.ofRow inE_len ho
          rw [HU.out.2.1] at e1
          subst e1
          have h1 := ho
          clear ho
          try simp only [Act.put]
          try simp only [List.setIfInBounds_toArray]
          try simp only [List.set]
          refine wpAnyH_ready (rs := [10]) (by kernel_rfl) (by simp) ?_
          refine AllReadyH.cons rfl (fun K hK => ?_) (AllReadyH.nil)
          have gAl : Below U38.heap.size U38 (U38.alloc (.cells #[] 89)) := by go_grown
          have h2 : (U38.alloc (.cells #[] 89)).ownsRow Y.heap.size 89 2 (.slice (some ⟨U38.heap.size, 0, none⟩) 0 0) ([] : List K2).length (flat kyE []) := ownsRow_base (own_litN U38 89 2) hbY.size
          go_simp
          refine hK.out _ _ ⟨hHeld.1.below gAl hHeld.1.lt, hHeld.2.trans (gAl.mono hHeld.2.size)⟩ (fun hHeld => ?_)
          clear hK K
          have hbY := hbY.trans (gAl.mono hbY.size)
          have h0 := ownsRow_below h0 gAl
          have h1 := ownsRow_below h1 gAl
          clear gAl
          generalize U38.alloc (.cells #[] 89) = U39 at hHeld hbY h2 h0 h1 ⊢
          generalize U38.heap.size = g2 at h2 ⊢
          try simp only [Act.put]
          try simp only [List.setIfInBounds_toArray]
          try simp only [List.set]
          refine wpAnyH_ready (rs := [13]) (by kernel_rfl) (by simp) ?_
          refine AllReadyH.cons rfl (fun K hK => ?_) (AllReadyH.nil)
          rw [if_pos (by kernel_rfl)]
          refine wp_append_sl elKs _ _ _ rfl Y.heap.size _ [] ls la ln lc rfl rfl HU.out.2.2 h2 (HR2.out _ hHeld.2) (by rw [HU.out.2.2]; simp; omega) hbY.size ?_
          intro v2 U40 ho hg _
          have hgB : Below Y.heap.size U39 U40 := Below.grown (Below.refl _ _) hg hbY.size (fun q e => (ownsRow_lo h2 q e).1)
          refine hK.out _ _ ⟨hHeld.1.below hgB hkY, hHeld.2.trans (hgB.mono hwY)⟩ (fun hHeld => ?_)
          clear hK K
          have hbY := hbY.trans hgB
          have h0 := owns_grow h0 h2 (by decide) hg
          have h1 := owns_grow h1 h2 (by decide) hg
          have ho : U40.ownsRow Y.heap.size 89 2 v2 ls.length (flat kyE ls) := ho
          clear h2 hg hgB
          obtain ⟨a2, c2, e2, _⟩ := SlIn.ofRow kyE_len ho
          rw [HU.out.2.2] at e2
          subst e2
          have h2 := ho
          clear ho
          try simp only [Act.put]
          try simp only [List.setIfInBounds_toArray]
          try simp only [List.set]
          refine wpAnyH_take (i := 14) (v := ?v17) rfl (by kernel_rfl) (by kernel_rfl) (by kernel_rfl) (fun _ _ _ h => h) (Or.inl ⟨by kernel_rfl, ?h17⟩) hHeld ?_
          case h17 => intro u hSw; (obtain ⟨q0, q1, q2, q3⟩ := hSw.1); go_simp; try with_reducible rfl
          try simp only [List.getElem_toArray]
          try simp only [List.getElem_cons_succ]
          try simp only [List.getElem_cons_zero]
          try simp only [Act.put]
          try simp only [List.setIfInBounds_toArray]
          try simp only [List.set]
          obtain ⟨⟨z0, z1, z2, z3⟩, zf⟩ := HO.out _ hbY
          have f0 := zf 0
          have f1 := zf 1
          have f2 := zf 2
          have f3 := zf 3
          clear zf
          have T : Turned ob (ob + 1) U40 ((((U40.setCell ⟨ob, 0, none⟩ (.int .i64 id)).setCell ⟨ob, 1, none⟩ (.slice a0 un c0)).setCell ⟨ob, 2, none⟩ (.slice a1 mn c1)).setCell ⟨ob, 3, none⟩ (.slice a2 ln c2)) := ((((Turned.refl _ _ U40).setCell (p := ⟨ob, 0, none⟩) (Nat.le_refl _) (Nat.lt_succ_self _) _).setCell (p := ⟨ob, 1, none⟩) (Nat.le_refl _) (Nat.lt_succ_self _) _).setCell (p := ⟨ob, 2, none⟩) (Nat.le_refl _) (Nat.lt_succ_self _) _).setCell (p := ⟨ob, 3, none⟩) (Nat.le_refl _) (Nat.lt_succ_self _) _
          have HT : Hid (OneT Y.heap.size ((((U40.setCell ⟨ob, 0, none⟩ (.int .i64 id)).setCell ⟨ob, 1, none⟩ (.slice a0 un c0)).setCell ⟨ob, 2, none⟩ (.slice a1 mn c1)).setCell ⟨ob, 3, none⟩ (.slice a2 ln c2)) ⟨id, a0, un, c0, a1, mn, c1, a2, ln, c2⟩ ⟨id, us, ms, ls⟩) := fin1 T hob h0 h1 h2 HU.out.1 HU.out.2.1 HU.out.2.2
          refine wpAnyH_ready (rs := [15]) (by kernel_rfl) (by simp) ?_
          refine AllReadyH.cons rfl (fun K hK => ?_) AllReadyH.nil
          go_simp
          refine hK.out _ _ ⟨hHeld.1.other T hkob, hHeld.2.trans (T.toBelow hHeld.2.size hwob)⟩ (fun hHeld => ?_)
          clear hK K
          try simp only [Act.put]
          try simp only [List.setIfInBounds_toArray]
          try simp only [List.set]
          refine wpAnyH_done (by kernel_rfl) ?_ _
          have Z4 : T4 ((((U40.setCell ⟨ob, 0, none⟩ (.int .i64 id)).setCell ⟨ob, 1, none⟩ (.slice a0 un c0)).setCell ⟨ob, 2, none⟩ (.slice a1 mn c1)).setCell ⟨ob, 3, none⟩ (.slice a2 ln c2)) ob id a0 un c0 a1 mn c1 a2 ln c2 := ⟨by simp [go_sem, z0], by simp [go_sem, z1], by simp [go_sem, z2], by simp [go_sem, z3]⟩
          have g := hHeld.2
          clear hHeld T z0 z1 z2 z3 f0 f1 f2 f3 h0 h1 h2 hbY
          generalize ((((U40.setCell ⟨ob, 0, none⟩ (.int .i64 id)).setCell ⟨ob, 1, none⟩ (.slice a0 un c0)).setCell ⟨ob, 2, none⟩ (.slice a1 mn c1)).setCell ⟨ob, 3, none⟩ (.slice a2 ln c2)) = W at HT Z4 g ⊢
          obtain ⟨z0, z1, z2, z3⟩ := Z4
          go_wp2_with fail
          refine bodyPost_ret (v := .agg #[.int .i64 id, .slice a0 un c0, .slice a1 mn c1, .slice a2 ln c2]) (by simp [results, Try.results157, go_sem, *]) rfl ?_
          exact ⟨a0, c0, a1, c1, a2, c2, rfl, g, HT.out.base hwY⟩
        · have gAl : Below U37.heap.size U37 (U37.alloc (.cells #[] 89)) := by go_grown
          have h2 : (U37.alloc (.cells #[] 89)).ownsRow Y.heap.size 89 2 (.slice (some ⟨U37.heap.size, 0, none⟩) 0 0) ([] : List K2).length (flat kyE []) := ownsRow_base (own_litN U37 89 2) hbY.size
          go_simp
          refine hK.out _ _ ⟨hHeld.1.below gAl hHeld.1.lt, hHeld.2.trans (gAl.mono hHeld.2.size)⟩ (fun hHeld => ?_)
          clear hK K
          have hbY := hbY.trans (gAl.mono hbY.size)
          have h0 := ownsRow_below h0 gAl
          have h1 := ownsRow_below h1 gAl
          clear gAl
          generalize U37.alloc (.cells #[] 89) = U41 at hHeld hbY h2 h0 h1 ⊢
          generalize U37.heap.size = g2 at h2 ⊢
          try simp only [Act.put]
          try simp only [List.setIfInBounds_toArray]
          try simp only [List.set]
          refine wpAnyH_ready (rs := [9]) (by kernel_rfl) (by simp) ?_
          refine AllReadyH.cons rfl (fun K hK => ?_) (AllReadyH.nil)
          rw [if_pos (by kernel_rfl)]
          refine wp_append_sl elI _ _ _ rfl Y.heap.size _ [] ms ma mn mc rfl rfl HU.out.2.1 h1 (HR1.out _ hHeld.2) (by rw [HU.out.2.1]; simp; omega) hbY.size ?_
          intro v1 U42 ho hg _
          have hgB : Below Y.heap.size U41 U42 := Below.grown (Below.refl _ _) hg hbY.size (fun q e => (ownsRow_lo h1 q e).1)
          refine hK.out _ _ ⟨hHeld.1.below hgB hkY, hHeld.2.trans (hgB.mono hwY)⟩ (fun hHeld => ?_)
          clear hK K
          have hbY := hbY.trans hgB
          have h0 := owns_grow h0 h1 (by decide) hg
          have h2 := owns_grow h2 h1 (by decide) hg
          have ho : U42.ownsRow Y.heap.size 2 1 v1 ms.length (flat inE ms) := ho
          clear h1 hg hgB
          obtain ⟨a1, c1, e1, _⟩ := SlIn.ofRow inE_len ho
          rw [HU.out.2.1] at e1
          subst e1
          have h1 := ho
          clear ho
          try simp only [Act.put]
          try simp only [List.setIfInBounds_toArray]
          try simp only [List.set]
          refine wpAnyH_ready (rs := [13]) (by kernel_rfl) (by simp) ?_
          refine AllReadyH.cons rfl (fun K hK => ?_) (AllReadyH.nil)
          rw [if_pos (by kernel_rfl)]
          refine wp_append_sl elKs _ _ _ rfl Y.heap.size _ [] ls la ln lc rfl rfl HU.out.2.2 h2 (HR2.out _ hHeld.2) (by rw [HU.out.2.2]; simp; omega) hbY.size ?_
          intro v2 U43 ho hg _
          have hgB : Below Y.heap.size U42 U43 := Below.grown (Below.refl _ _) hg hbY.size (fun q e => (ownsRow_lo h2 q e).1)
          refine hK.out _ _ ⟨hHeld.1.below hgB hkY, hHeld.2.trans (hgB.mono hwY)⟩ (fun hHeld => ?_)
          clear hK K
          have hbY := hbY.trans hgB
          have h0 := owns_grow h0 h2 (by decide) hg
          have h1 := owns_grow h1 h2 (by decide) hg
          have ho : U43.ownsRow Y.heap.size 89 2 v2 ls.length (flat kyE ls) := ho
          clear h2 hg hgB
          obtain ⟨a2, c2, e2, _⟩ := SlIn.ofRow kyE_len ho
          rw [HU.out.2.2] at e2
          subst e2
          have h2 := ho
          clear ho
          try simp only [Act.put]
          try simp only [List.setIfInBounds_toArray]
          try simp only [List.set]
          refine wpAnyH_take (i := 14) (v := ?v18) rfl (by kernel_rfl) (by kernel_rfl) (by kernel_rfl) (fun _ _ _ h => h) (Or.inl ⟨by kernel_rfl, ?h18⟩) hHeld ?_
          case h18 => intro u hSw; (obtain ⟨q0, q1, q2, q3⟩ := hSw.1); go_simp; try with_reducible rfl
          try simp only [List.getElem_toArray]
          try simp only [List.getElem_cons_succ]
          try simp only [List.getElem_cons_zero]
          try simp only [Act.put]
          try simp only [List.setIfInBounds_toArray]
          try simp only [List.set]
          obtain ⟨⟨z0, z1, z2, z3⟩, zf⟩ := HO.out _ hbY
          have f0 := zf 0
          have f1 := zf 1
          have f2 := zf 2
          have f3 := zf 3
          clear zf
          have T : Turned ob (ob + 1) U43 ((((U43.setCell ⟨ob, 0, none⟩ (.int .i64 id)).setCell ⟨ob, 1, none⟩ (.slice a0 un c0)).setCell ⟨ob, 2, none⟩ (.slice a1 mn c1)).setCell ⟨ob, 3, none⟩ (.slice a2 ln c2)) := ((((Turned.refl _ _ U43).setCell (p := ⟨ob, 0, none⟩) (Nat.le_refl _) (Nat.lt_succ_self _) _).setCell (p := ⟨ob, 1, none⟩) (Nat.le_refl _) (Nat.lt_succ_self _) _).setCell (p := ⟨ob, 2, none⟩) (Nat.le_refl _) (Nat.lt_succ_self _) _).setCell (p := ⟨ob, 3, none⟩) (Nat.le_refl _) (Nat.lt_succ_self _) _
          have HT : Hid (OneT Y.heap.size ((((U43.setCell ⟨ob, 0, none⟩ (.int .i64 id)).setCell ⟨ob, 1, none⟩ (.slice a0 un c0)).setCell ⟨ob, 2, none⟩ (.slice a1 mn c1)).setCell ⟨ob, 3, none⟩ (.slice a2 ln c2)) ⟨id, a0, un, c0, a1, mn, c1, a2, ln, c2⟩ ⟨id, us, ms, ls⟩) := fin1 T hob h0 h1 h2 HU.out.1 HU.out.2.1 HU.out.2.2
          refine wpAnyH_ready (rs := [15]) (by kernel_rfl) (by simp) ?_
          refine AllReadyH.cons rfl (fun K hK => ?_) AllReadyH.nil
          go_simp
          refine hK.out _ _ ⟨hHeld.1.other T hkob, hHeld.2.trans (T.toBelow hHeld.2.size hwob)⟩ (fun hHeld => ?_)
          clear hK K
          try simp only [Act.put]
          try simp only [List.setIfInBounds_toArray]
          try simp only [List.set]
          refine wpAnyH_done (by kernel_rfl) ?_ _
          have Z4 : T4 ((((U43.setCell ⟨ob, 0, none⟩ (.int .i64 id)).setCell ⟨ob, 1, none⟩ (.slice a0 un c0)).setCell ⟨ob, 2, none⟩ (.slice a1 mn c1)).setCell ⟨ob, 3, none⟩ (.slice a2 ln c2)) ob id a0 un c0 a1 mn c1 a2 ln c2 := ⟨by simp [go_sem, z0], by simp [go_sem, z1], by simp [go_sem, z2], by simp [go_sem, z3]⟩
          have g := hHeld.2
          clear hHeld T z0 z1 z2 z3 f0 f1 f2 f3 h0 h1 h2 hbY
          generalize ((((U43.setCell ⟨ob, 0, none⟩ (.int .i64 id)).setCell ⟨ob, 1, none⟩ (.slice a0 un c0)).setCell ⟨ob, 2, none⟩ (.slice a1 mn c1)).setCell ⟨ob, 3, none⟩ (.slice a2 ln c2)) = W at HT Z4 g ⊢
          obtain ⟨z0, z1, z2, z3⟩ := Z4
          go_wp2_with fail
          refine bodyPost_ret (v := .agg #[.int .i64 id, .slice a0 un c0, .slice a1 mn c1, .slice a2 ln c2]) (by simp [results, Try.results157, go_sem, *]) rfl ?_
          exact ⟨a0, c0, a1, c1, a2, c2, rfl, g, HT.out.base hwY⟩
      · have gAl : Below U36.heap.size U36 (U36.alloc (.cells #[] 89)) := by go_grown
        have h2 : (U36.alloc (.cells #[] 89)).ownsRow Y.heap.size 89 2 (.slice (some ⟨U36.heap.size, 0, none⟩) 0 0) ([] : List K2).length (flat kyE []) := ownsRow_base (own_litN U36 89 2) hbY.size
        go_simp
        refine hK.out _ _ ⟨hHeld.1.below gAl hHeld.1.lt, hHeld.2.trans (gAl.mono hHeld.2.size)⟩ (fun hHeld => ?_)
        clear hK K
        have hbY := hbY.trans (gAl.mono hbY.size)
        have h0 := ownsRow_below h0 gAl
        have h1 := ownsRow_below h1 gAl
        clear gAl
        generalize U36.alloc (.cells #[] 89) = U44 at hHeld hbY h2 h0 h1 ⊢
        generalize U36.heap.size = g2 at h2 ⊢
        try simp only [Act.put]
        try simp only [List.setIfInBounds_toArray]
        try simp only [List.set]
        refine wpAnyH_ready (rs := [5]) (by kernel_rfl) (by simp) ?_
        refine AllReadyH.cons rfl (fun K hK => ?_) (AllReadyH.nil)
        rw [if_pos (by kernel_rfl)]
        refine wp_append_sl elC _ _ _ rfl Y.heap.size _ [] us ua un uc rfl rfl HU.out.1 h0 (HR0.out _ hHeld.2) (by rw [HU.out.1]; simp; omega) hbY.size ?_
        intro v0 U45 ho hg _
        have hgB : Below Y.heap.size U44 U45 := Below.grown (Below.refl _ _) hg hbY.size (fun q e => (ownsRow_lo h0 q e).1)
        refine hK.out _ _ ⟨hHeld.1.below hgB hkY, hHeld.2.trans (hgB.mono hwY)⟩ (fun hHeld => ?_)
        clear hK K
        have hbY := hbY.trans hgB
        have h1 := owns_grow h1 h0 (by decide) hg
        have h2 := owns_grow h2 h0 (by decide) hg
        have ho : U45.ownsRow Y.heap.size 61 10 v0 us.length (flat chE us) := ho
        clear h0 hg hgB
        obtain ⟨a0, c0, e0, _⟩ := SlIn.ofRow chE_len ho
        rw [HU.out.1] at e0
        subst e0
        have h0 := ho
        clear ho
        try simp only [Act.put]
        try simp only [List.setIfInBounds_toArray]
        try simp only [List.set]
        refine wpAnyH_ready (rs := [9]) (by kernel_rfl) (by simp) ?_
        refine AllReadyH.cons rfl (fun K hK => ?_) (AllReadyH.nil)
        rw [if_pos (by kernel_rfl)]
        refine wp_append_sl elI _ _ _ rfl Y.heap.size _ [] ms ma mn mc rfl rfl HU.out.2.1 h1 (HR1.out _ hHeld.2) (by rw [HU.out.2.1]; simp; omega) hbY.size ?_
        intro v1 U46 ho hg _
        have hgB : Below Y.heap.size U45 U46 := Below.grown (Below.refl _ _) hg hbY.size (fun q e => (ownsRow_lo h1 q e).1)
        refine hK.out _ _ ⟨hHeld.1.below hgB hkY, hHeld.2.trans (hgB.mono hwY)⟩ (fun hHeld => ?_)
        clear hK K
        have hbY := hbY.trans hgB
        have h0 := owns_grow h0 h1 (by decide) hg
        have h2 := owns_grow h2 h1 (by decide) hg
        have ho : U46.ownsRow Y.heap.size 2 1 v1 ms.length (flat inE ms) := ho
        clear h1 hg hgB
        obtain ⟨a1, c1, e1, _⟩ := SlIn.ofRow inE_len ho
        rw [HU.out.2.1] at e1
        subst e1
        have h1 := ho
        clear ho
        try simp only [Act.put]
        try simp only [List.setIfInBounds_toArray]
        try simp only [List.set]
        refine wpAnyH_ready (rs := [13]) (by kernel_rfl) (by simp) ?_
        refine AllReadyH.cons rfl (fun K hK => ?_) (AllReadyH.nil)
        rw [if_pos (by kernel_rfl)]
        refine wp_append_sl elKs _ _ _ rfl Y.heap.size _ [] ls la ln lc rfl rfl HU.out.2.2 h2 (HR2.out _ hHeld.2) (by rw [HU.out.2.2]; simp; omega) hbY.size ?_
        intro v2 U47 ho hg _
        have hgB : Below Y.heap.size U46 U47 := Below.grown (Below.refl _ _) hg hbY.size (fun q e => (ownsRow_lo h2 q e).1)
        refine hK.out _ _ ⟨hHeld.1.below hgB hkY, hHeld.2.trans (hgB.mono hwY)⟩ (fun hHeld => ?_)
        clear hK K
        have hbY := hbY.trans hgB
        have h0 := owns_grow h0 h2 (by decide) hg
        have h1 := owns_grow h1 h2 (by decide) hg
        have ho : U47.ownsRow Y.heap.size 89 2 v2 ls.length (flat kyE ls) := ho
        clear h2 hg hgB
        obtain ⟨a2, c2, e2, _⟩ := SlIn.ofRow kyE_len ho
        rw [HU.out.2.2] at e2
        subst e2
        have h2 := ho
        clear ho
        try simp only [Act.put]
        try simp only [List.setIfInBounds_toArray]
        try simp only [List.set]
        refine wpAnyH_take (i := 14) (v := ?v19) rfl (by kernel_rfl) (by kernel_rfl) (by kernel_rfl) (fun _ _ _ h => h) (Or.inl ⟨by kernel_rfl, ?h19⟩) hHeld ?_
        case h19 => intro u hSw; (obtain ⟨q0, q1, q2, q3⟩ := hSw.1); go_simp; try with_reducible rfl
        try simp only [List.getElem_toArray]
        try simp only [List.getElem_cons_succ]
        try simp only [List.getElem_cons_zero]
        try simp only [Act.put]
        try simp only [List.setIfInBounds_toArray]
        try simp only [List.set]
        obtain ⟨⟨z0, z1, z2, z3⟩, zf⟩ := HO.out _ hbY
        have f0 := zf 0
        have f1 := zf 1
        have f2 := zf 2
        have f3 := zf 3
        clear zf
        have T : Turned ob (ob + 1) U47 ((((U47.setCell ⟨ob, 0, none⟩ (.int .i64 id)).setCell ⟨ob, 1, none⟩ (.slice a0 un c0)).setCell ⟨ob, 2, none⟩ (.slice a1 mn c1)).setCell ⟨ob, 3, none⟩ (.slice a2 ln c2)) := ((((Turned.refl _ _ U47).setCell (p := ⟨ob, 0, none⟩) (Nat.le_refl _) (Nat.lt_succ_self _) _).setCell (p := ⟨ob, 1, none⟩) (Nat.le_refl _) (Nat.lt_succ_self _) _).setCell (p := ⟨ob, 2, none⟩) (Nat.le_refl _) (Nat.lt_succ_self _) _).setCell (p := ⟨ob, 3, none⟩) (Nat.le_refl _) (Nat.lt_succ_self _) _
        have HT : Hid (OneT Y.heap.size ((((U47.setCell ⟨ob, 0, none⟩ (.int .i64 id)).setCell ⟨ob, 1, none⟩ (.slice a0 un c0)).setCell ⟨ob, 2, none⟩ (.slice a1 mn c1)).setCell ⟨ob, 3, none⟩ (.slice a2 ln c2)) ⟨id, a0, un, c0, a1, mn, c1, a2, ln, c2⟩ ⟨id, us, ms, ls⟩) := fin1 T hob h0 h1 h2 HU.out.1 HU.out.2.1 HU.out.2.2
        refine wpAnyH_ready (rs := [15]) (by kernel_rfl) (by simp) ?_
        refine AllReadyH.cons rfl (fun K hK => ?_) AllReadyH.nil
        go_simp
        refine hK.out _ _ ⟨hHeld.1.other T hkob, hHeld.2.trans (T.toBelow hHeld.2.size hwob)⟩ (fun hHeld => ?_)
        clear hK K
        try simp only [Act.put]
        try simp only [List.setIfInBounds_toArray]
        try simp only [List.set]
        refine wpAnyH_done (by kernel_rfl) ?_ _
        have Z4 : T4 ((((U47.setCell ⟨ob, 0, none⟩ (.int .i64 id)).setCell ⟨ob, 1, none⟩ (.slice a0 un c0)).setCell ⟨ob, 2, none⟩ (.slice a1 mn c1)).setCell ⟨ob, 3, none⟩ (.slice a2 ln c2)) ob id a0 un c0 a1 mn c1 a2 ln c2 := ⟨by simp [go_sem, z0], by simp [go_sem, z1], by simp [go_sem, z2], by simp [go_sem, z3]⟩
        have g := hHeld.2
        clear hHeld T z0 z1 z2 z3 f0 f1 f2 f3 h0 h1 h2 hbY
        generalize ((((U47.setCell ⟨ob, 0, none⟩ (.int .i64 id)).setCell ⟨ob, 1, none⟩ (.slice a0 un c0)).setCell ⟨ob, 2, none⟩ (.slice a1 mn c1)).setCell ⟨ob, 3, none⟩ (.slice a2 ln c2)) = W at HT Z4 g ⊢
        obtain ⟨z0, z1, z2, z3⟩ := Z4
        go_wp2_with fail
        refine bodyPost_ret (v := .agg #[.int .i64 id, .slice a0 un c0, .slice a1 mn c1, .slice a2 ln c2]) (by simp [results, Try.results157, go_sem, *]) rfl ?_
        exact ⟨a0, c0, a1, c1, a2, c2, rfl, g, HT.out.base hwY⟩
    · have gAl : Below U35.heap.size U35 (U35.alloc (.cells #[] 89)) := by go_grown
      have h2 : (U35.alloc (.cells #[] 89)).ownsRow Y.heap.size 89 2 (.slice (some ⟨U35.heap.size, 0, none⟩) 0 0) ([] : List K2).length (flat kyE []) := ownsRow_base (own_litN U35 89 2) hbY.size
      go_simp
      refine hK.out _ _ ⟨hHeld.1.below gAl hHeld.1.lt, hHeld.2.trans (gAl.mono hHeld.2.size)⟩ (fun hHeld => ?_)
      clear hK K
      have hbY := hbY.trans (gAl.mono hbY.size)
      have h1 := ownsRow_below h1 gAl
      clear gAl
      generalize U35.alloc (.cells #[] 89) = U48 at hHeld hbY h2 h1 ⊢
      generalize U35.heap.size = g2 at h2 ⊢
      try simp only [Act.put]
      try simp only [List.setIfInBounds_toArray]
      try simp only [List.set]
      refine wpAnyH_ready (rs := [2]) (by kernel_rfl) (by simp) ?_
      refine AllReadyH.cons rfl (fun K hK => ?_) (AllReadyH.nil)
      have gAl : Below U48.heap.size U48 (U48.alloc (.cells #[] 61)) := by go_grown
      have h0 : (U48.alloc (.cells #[] 61)).ownsRow Y.heap.size 61 10 (.slice (some ⟨U48.heap.size, 0, none⟩) 0 0) ([] : List Chg).length (flat chE []) := ownsRow_base (own_litN U48 61 10) hbY.size
      go_simp
      refine hK.out _ _ ⟨hHeld.1.below gAl hHeld.1.lt, hHeld.2.trans (gAl.mono hHeld.2.size)⟩ (fun hHeld => ?_)
      clear hK K
      have hbY := hbY.trans (gAl.mono hbY.size)
      have h1 := ownsRow_below h1 gAl
      have h2 := ownsRow_below h2 gAl
      clear gAl
      generalize U48.alloc (.cells #[] 61) = U49 at hHeld hbY h0 h1 h2 ⊢
      generalize U48.heap.size = g0 at h0 ⊢
      try simp only [Act.put]
      try simp only [List.setIfInBounds_toArray]
      try simp only [List.set]
      refine wpAnyH_ready (rs := [5]) (by kernel_rfl) (by simp) ?_
      refine AllReadyH.cons rfl (fun K hK => ?_) (AllReadyH.nil)
      rw [if_pos (by kernel_rfl)]
      refine wp_append_sl elC _ _ _ rfl Y.heap.size _ [] us ua un uc rfl rfl HU.out.1 h0 (HR0.out _ hHeld.2) (by rw [HU.out.1]; simp; omega) hbY.size ?_
      intro v0 U50 ho hg _
      have hgB : Below Y.heap.size U49 U50 := Below.grown (Below.refl _ _) hg hbY.size (fun q e => (ownsRow_lo h0 q e).1)
      refine hK.out _ _ ⟨hHeld.1.below hgB hkY, hHeld.2.trans (hgB.mono hwY)⟩ (fun hHeld => ?_)
      clear hK K
      have hbY := hbY.trans hgB
      have h1 := owns_grow h1 h0 (by decide) hg
      have h2 := owns_grow h2 h0 (by decide) hg
      have ho : U50.ownsRow Y.heap.size 61 10 v0 us.length (flat chE us) := ho
      clear h0 hg hgB
      obtain ⟨a0, c0, e0, _⟩ := SlIn.ofRow chE_len ho
      rw [HU.out.1] at e0
      subst e0
      have h0 := ho
      clear ho
      try simp only [Act.put]
      try simp only [List.setIfInBounds_toArray]
      try simp only [List.set]
      refine wpAnyH_ready (rs := [9]) (by kernel_rfl) (by simp) ?_
      refine AllReadyH.cons rfl (fun K hK => ?_) (AllReadyH.nil)
      rw [if_pos (by kernel_rfl)]
      refine wp_append_sl elI _ _ _ rfl Y.heap.size _ [] ms ma mn mc rfl rfl HU.out.2.1 h1 (HR1.out _ hHeld.2) (by rw [HU.out.2.1]; simp; omega) hbY.size ?_
      intro v1 U51 ho hg _
      have hgB : Below Y.heap.size U50 U51 := Below.grown (Below.refl _ _) hg hbY.size (fun q e => (ownsRow_lo h1 q e).1)
      refine hK.out _ _ ⟨hHeld.1.below hgB hkY, hHeld.2.trans (hgB.mono hwY)⟩ (fun hHeld => ?_)
      clear hK K
      have hbY := hbY.trans hgB
      have h0 := owns_grow h0 h1 (by decide) hg
      have h2 := owns_grow h2 h1 (by decide) hg
      have ho : U51.ownsRow Y.heap.size 2 1 v1 ms.length (flat inE ms) := ho
      clear h1 hg hgB
      obtain ⟨a1, c1, e1, _⟩ := SlIn.ofRow inE_len ho
      rw [HU.out.2.1] at e1
      subst e1
      have h1 := ho
      clear ho
      try simp only [Act.put]
      try simp only [List.setIfInBounds_toArray]
      try simp only [List.set]
      refine wpAnyH_ready (rs := [13]) (by kernel_rfl) (by simp) ?_
      refine AllReadyH.cons rfl (fun K hK => ?_) (AllReadyH.nil)
      rw [if_pos (by kernel_rfl)]
      refine wp_append_sl elKs _ _ _ rfl Y.heap.size _ [] ls la ln lc rfl rfl HU.out.2.2 h2 (HR2.out _ hHeld.2) (by rw [HU.out.2.2]; simp; omega) hbY.size ?_
      intro v2 U52 ho hg _
      have hgB : Below Y.heap.size U51 U52 := Below.grown (Below.refl _ _) hg hbY.size (fun q e => (ownsRow_lo h2 q e).1)
      refine hK.out _ _ ⟨hHeld.1.below hgB hkY, hHeld.2.trans (hgB.mono hwY)⟩ (fun hHeld => ?_)
      clear hK K
      have hbY := hbY.trans hgB
      have h0 := owns_grow h0 h2 (by decide) hg
      have h1 := owns_grow h1 h2 (by decide) hg
      have ho : U52.ownsRow Y.heap.size 89 2 v2 ls.length (flat kyE ls) := ho
      clear h2 hg hgB
      obtain ⟨a2, c2, e2, _⟩ := SlIn.ofRow kyE_len ho
      rw [HU.out.2.2] at e2
      subst e2
      have h2 := ho
      clear ho
      try simp only [Act.put]
      try simp only [List.setIfInBounds_toArray]
      try simp only [List.set]
      refine wpAnyH_take (i := 14) (v := ?v20) rfl (by kernel_rfl) (by kernel_rfl) (by kernel_rfl) (fun _ _ _ h => h) (Or.inl ⟨by kernel_rfl, ?h20⟩) hHeld ?_
      case h20 => intro u hSw; (obtain ⟨q0, q1, q2, q3⟩ := hSw.1); go_simp; try with_reducible rfl
      try simp only [List.getElem_toArray]
      try simp only [List.getElem_cons_succ]
      try simp only [List.getElem_cons_zero]
      try simp only [Act.put]
      try simp only [List.setIfInBounds_toArray]
      try simp only [List.set]
      obtain ⟨⟨z0, z1, z2, z3⟩, zf⟩ := HO.out _ hbY
      have f0 := zf 0
      have f1 := zf 1
      have f2 := zf 2
      have f3 := zf 3
      clear zf
      have T : Turned ob (ob + 1) U52 ((((U52.setCell ⟨ob, 0, none⟩ (.int .i64 id)).setCell ⟨ob, 1, none⟩ (.slice a0 un c0)).setCell ⟨ob, 2, none⟩ (.slice a1 mn c1)).setCell ⟨ob, 3, none⟩ (.slice a2 ln c2)) := ((((Turned.refl _ _ U52).setCell (p := ⟨ob, 0, none⟩) (Nat.le_refl _) (Nat.lt_succ_self _) _).setCell (p := ⟨ob, 1, none⟩) (Nat.le_refl _) (Nat.lt_succ_self _) _).setCell (p := ⟨ob, 2, none⟩) (Nat.le_refl _) (Nat.lt_succ_self _) _).setCell (p := ⟨ob, 3, none⟩) (Nat.le_refl _) (Nat.lt_succ_self _) _
      have HT : Hid (OneT Y.heap.size ((((U52.setCell ⟨ob, 0, none⟩ (.int .i64 id)).setCell ⟨ob, 1, none⟩ (.slice a0 un c0)).setCell ⟨ob, 2, none⟩ (.slice a1 mn c1)).setCell ⟨ob, 3, none⟩ (.slice a2 ln c2)) ⟨id, a0, un, c0, a1, mn, c1, a2, ln, c2⟩ ⟨id, us, ms, ls⟩) := fin1 T hob h0 h1 h2 HU.out.1 HU.out.2.1 HU.out.2.2
      refine wpAnyH_ready (rs := [15]) (by kernel_rfl) (by simp) ?_
      refine AllReadyH.cons rfl (fun K hK => ?_) AllReadyH.nil
      go_simp
      refine hK.out _ _ ⟨hHeld.1.other T hkob, hHeld.2.trans (T.toBelow hHeld.2.size hwob)⟩ (fun hHeld => ?_)
      clear hK K
      try simp only [Act.put]
      try simp only [List.setIfInBounds_toArray]
      try simp only [List.set]
      refine wpAnyH_done (by kernel_rfl) ?_ _
      have Z4 : T4 ((((U52.setCell ⟨ob, 0, none⟩ (.int .i64 id)).setCell ⟨ob, 1, none⟩ (.slice a0 un c0)).setCell ⟨ob, 2, none⟩ (.slice a1 mn c1)).setCell ⟨ob, 3, none⟩ (.slice a2 ln c2)) ob id a0 un c0 a1 mn c1 a2 ln c2 := ⟨by simp [go_sem, z0], by simp [go_sem, z1], by simp [go_sem, z2], by simp [go_sem, z3]⟩
      have g := hHeld.2
      clear hHeld T z0 z1 z2 z3 f0 f1 f2 f3 h0 h1 h2 hbY
      generalize ((((U52.setCell ⟨ob, 0, none⟩ (.int .i64 id)).setCell ⟨ob, 1, none⟩ (.slice a0 un c0)).setCell ⟨ob, 2, none⟩ (.slice a1 mn c1)).setCell ⟨ob, 3, none⟩ (.slice a2 ln c2)) = W at HT Z4 g ⊢
      obtain ⟨z0, z1, z2, z3⟩ := Z4
      go_wp2_with fail
      refine bodyPost_ret (v := .agg #[.int .i64 id, .slice a0 un c0, .slice a1 mn c1, .slice a2 ln c2]) (by simp [results, Try.results157, go_sem, *]) rfl ?_
      exact ⟨a0, c0, a1, c1, a2, c2, rfl, g, HT.out.base hwY⟩
  · have gAl : Below D.heap.size D (D.alloc (.cells #[] 89)) := by go_grown
    have h2 : (D.alloc (.cells #[] 89)).ownsRow Y.heap.size 89 2 (.slice (some ⟨D.heap.size, 0, none⟩) 0 0) ([] : List K2).length (flat kyE []) := ownsRow_base (own_litN D 89 2) hbY.size
    go_simp
    refine hK.out _ _ ⟨hHeld.1.below gAl hHeld.1.lt, hHeld.2.trans (gAl.mono hHeld.2.size)⟩ (fun hHeld => ?_)
    clear hK K
    have hbY := hbY.trans (gAl.mono hbY.size)
    clear gAl
    generalize D.alloc (.cells #[] 89) = U53 at hHeld hbY h2  ⊢
    generalize D.heap.size = g2 at h2 ⊢
    try simp only [Act.put]
    try simp only [List.setIfInBounds_toArray]
    try simp only [List.set]
    refine wpAnyH_ready (rs := [2, 6]) (by kernel_rfl) (by simp) ?_
    refine AllReadyH.cons rfl (fun K hK => ?_) (AllReadyH.cons rfl (fun K hK => ?_) (AllReadyH.nil))
    · have gAl : Below U53.heap.size U53 (U53.alloc (.cells #[] 61)) := by go_grown
      have h0 : (U53.alloc (.cells #[] 61)).ownsRow Y.heap.size 61 10 (.slice (some ⟨U53.heap.size, 0, none⟩) 0 0) ([] : List Chg).length (flat chE []) := ownsRow_base (own_litN U53 61 10) hbY.size
      go_simp
      refine hK.out _ _ ⟨hHeld.1.below gAl hHeld.1.lt, hHeld.2.trans (gAl.mono hHeld.2.size)⟩ (fun hHeld => ?_)
      clear hK K
      have hbY := hbY.trans (gAl.mono hbY.size)
      have h2 := ownsRow_below h2 gAl
      clear gAl
      generalize U53.alloc (.cells #[] 61) = U54 at hHeld hbY h0 h2 ⊢
      generalize U53.heap.size = g0 at h0 ⊢
      try simp only [Act.put]
      try simp only [List.setIfInBounds_toArray]
      try simp only [List.set]
      refine wpAnyH_ready (rs := [5, 6]) (by kernel_rfl) (by simp) ?_
      refine AllReadyH.cons rfl (fun K hK => ?_) (AllReadyH.cons rfl (fun K hK => ?_) (AllReadyH.nil))
      · rw [if_pos (by kernel_rfl)]
        refine wp_append_sl elC _ _ _ rfl Y.heap.size _ [] us ua un uc rfl rfl HU.out.1 h0 (HR0.out _ hHeld.2) (by rw [HU.out.1]; simp; omega) hbY.size ?_
        intro v0 U55 ho hg _
        have hgB : Below Y.heap.size U54 U55 := Below.grown (Below.refl _ _) hg hbY.size (fun q e => (ownsRow_lo h0 q e).1)
        refine hK.out _ _ ⟨hHeld.1.below hgB hkY, hHeld.2.trans (hgB.mono hwY)⟩ (fun hHeld => ?_)
        clear hK K
        have hbY := hbY.trans hgB
        have h2 := owns_grow h2 h0 (by decide) hg
        have ho : U55.ownsRow Y.heap.size 61 10 v0 us.length (flat chE us) := ho
        clear h0 hg hgB
        obtain ⟨a0, c0, e0, _⟩ := SlIn.ofRow chE_len ho
        rw [HU.out.1] at e0
        subst e0
        have h0 := ho
        clear ho
        try simp only [Act.put]
        try simp only [List.setIfInBounds_toArray]
        try simp only [List.set]
        refine wpAnyH_ready (rs := [6]) (by kernel_rfl) (by simp) ?_
        refine AllReadyH.cons rfl (fun K hK => ?_) (AllReadyH.nil)
        have gAl : Below U55.heap.size U55 (U55.alloc (.cells #[] 2)) := by go_grown
        have h1 : (U55.alloc (.cells #[] 2)).ownsRow Y.heap.size 2 1 (.slice (some ⟨U55.heap.size, 0, none⟩) 0 0) ([] : List Int).length (flat inE []) := ownsRow_base (own_litN U55 2 1) hbY.size
        go_simp
        refine hK.out _ _ ⟨hHeld.1.below gAl hHeld.1.lt, hHeld.2.trans (gAl.mono hHeld.2.size)⟩ (fun hHeld => ?_)
        clear hK K
        have hbY := hbY.trans (gAl.mono hbY.size)
        have h0 := ownsRow_below h0 gAl
        have h2 := ownsRow_below h2 gAl
        clear gAl
        generalize U55.alloc (.cells #[] 2) = U56 at hHeld hbY h1 h0 h2 ⊢
        generalize U55.heap.size = g1 at h1 ⊢
        try simp only [Act.put]
        try simp only [List.setIfInBounds_toArray]
        try simp only [List.set]
        refine wpAnyH_ready (rs := [9]) (by kernel_rfl) (by simp) ?_
        refine AllReadyH.cons rfl (fun K hK => ?_) (AllReadyH.nil)
        rw [if_pos (by kernel_rfl)]
        refine wp_append_sl elI _ _ _ rfl Y.heap.size _ [] ms ma mn mc rfl rfl HU.out.2.1 h1 (HR1.out _ hHeld.2) (by rw [HU.out.2.1]; simp; omega) hbY.size ?_
        intro v1 U57 ho hg _
        have hgB : Below Y.heap.size U56 U57 := Below.grown (Below.refl _ _) hg hbY.size (fun q e => (ownsRow_lo h1 q e).1)
        refine hK.out _ _ ⟨hHeld.1.below hgB hkY, hHeld.2.trans (hgB.mono hwY)⟩ (fun hHeld => ?_)
        clear hK K
        have hbY := hbY.trans hgB
        have h0 := owns_grow h0 h1 (by decide) hg
        have h2 := owns_grow h2 h1 (by decide) hg
        have ho : U57.ownsRow Y.heap.size 2 1 v1 ms.length (flat inE ms) := ho
        clear h1 hg hgB
        obtain ⟨a1, c1, e1, _⟩ := SlIn.ofRow inE_len ho
        rw [HU.out.2.1] at e1
        subst e1
        have h1 := ho
        clear ho
        try simp only [Act.put]
        try simp only [List.setIfInBounds_toArray]
        try simp only [List.set]
        refine wpAnyH_ready (rs := [13]) (by kernel_rfl) (by simp) ?_
        refine AllReadyH.cons rfl (fun K hK => ?_) (AllReadyH.nil)
        rw [if_pos (by kernel_rfl)]
        refine wp_append_sl elKs _ _ _ rfl Y.heap.size _ [] ls la ln lc rfl rfl HU.out.2.2 h2 (HR2.out _ hHeld.2) (by rw [HU.out.2.2]; simp; omega) hbY.size ?_
        intro v2 U58 ho hg _
        have hgB : Below Y.heap.size U57 U58 := Below.grown (Below.refl _ _) hg hbY.size (fun q e => (ownsRow_lo h2 q e).1)
        refine hK.out _ _ ⟨hHeld.1.below hgB hkY, hHeld.2.trans (hgB.mono hwY)⟩ (fun hHeld => ?_)
        clear hK K
        have hbY := hbY.trans hgB
        have h0 := owns_grow h0 h2 (by decide) hg
        have h1 := owns_grow h1 h2 (by decide) hg
        have ho : U58.ownsRow Y.heap.size 89 2 v2 ls.length (flat kyE ls) := ho
        clear h2 hg hgB
        obtain ⟨a2, c2, e2, _⟩ := SlIn.ofRow kyE_len ho
        rw [HU.out.2.2] at e2
        subst e2
        have h2 := ho
        clear ho
        try simp only [Act.put]
        try simp only [List.setIfInBounds_toArray]
        try simp only [List.set]
        refine wpAnyH_take (i := 14) (v := ?v21) rfl (by kernel_rfl) (by kernel_rfl) (by kernel_rfl) (fun _ _ _ h => h) (Or.inl ⟨by kernel_rfl, ?h21⟩) hHeld ?_
        case h21 => intro u hSw; (obtain ⟨q0, q1, q2, q3⟩ := hSw.1); go_simp; try with_reducible rfl
        try simp only [List.getElem_toArray]
        try simp only [List.getElem_cons_succ]
        try simp only [List.getElem_cons_zero]
        try simp only [Act.put]
        try simp only [List.setIfInBounds_toArray]
        try simp only [List.set]
        obtain ⟨⟨z0, z1, z2, z3⟩, zf⟩ := HO.out _ hbY
        have f0 := zf 0
        have f1 := zf 1
        have f2 := zf 2
        have f3 := zf 3
        clear zf
        have T : Turned ob (ob + 1) U58 ((((U58.setCell ⟨ob, 0, none⟩ (.int .i64 id)).setCell ⟨ob, 1, none⟩ (.slice a0 un c0)).setCell ⟨ob, 2, none⟩ (.slice a1 mn c1)).setCell ⟨ob, 3, none⟩ (.slice a2 ln c2)) := ((((Turned.refl _ _ U58).setCell (p := ⟨ob, 0, none⟩) (Nat.le_refl _) (Nat.lt_succ_self _) _).setCell (p := ⟨ob, 1, none⟩) (Nat.le_refl _) (Nat.lt_succ_self _) _).setCell (p := ⟨ob, 2, none⟩) (Nat.le_refl _) (Nat.lt_succ_self _) _).setCell (p := ⟨ob, 3, none⟩) (Nat.le_refl _) (Nat.lt_succ_self _) _
        have HT : Hid (OneT Y.heap.size ((((U58.setCell ⟨ob, 0, none⟩ (.int .i64 id)).setCell ⟨ob, 1, none⟩ (.slice a0 un c0)).setCell ⟨ob, 2, none⟩ (.slice a1 mn c1)).setCell ⟨ob, 3, none⟩ (.slice a2 ln c2)) ⟨id, a0, un, c0, a1, mn, c1, a2, ln, c2⟩ ⟨id, us, ms, ls⟩) := fin1 T hob h0 h1 h2 HU.out.1 HU.out.2.1 HU.out.2.2
        refine wpAnyH_ready (rs := [15]) (by kernel_rfl) (by simp) ?_
        refine AllReadyH.cons rfl (fun K hK => ?_) AllReadyH.nil
        go_simp
        refine hK.out _ _ ⟨hHeld.1.other T hkob, hHeld.2.trans (T.toBelow hHeld.2.size hwob)⟩ (fun hHeld => ?_)
        clear hK K
        try simp only [Act.put]
        try simp only [List.setIfInBounds_toArray]
        try simp only [List.set]
        refine wpAnyH_done (by kernel_rfl) ?_ _
        have Z4 : T4 ((((U58.setCell ⟨ob, 0, none⟩ (.int .i64 id)).setCell ⟨ob, 1, none⟩ (.slice a0 un c0)).setCell ⟨ob, 2, none⟩ (.slice a1 mn c1)).setCell ⟨ob, 3, none⟩ (.slice a2 ln c2)) ob id a0 un c0 a1 mn c1 a2 ln c2 := ⟨by simp [go_sem, z0], by simp [go_sem, z1], by simp [go_sem, z2], by simp [go_sem, z3]⟩
        have g := hHeld.2
        clear hHeld T z0 z1 z2 z3 f0 f1 f2 f3 h0 h1 h2 hbY
        generalize ((((U58.setCell ⟨ob, 0, none⟩ (.int .i64 id)).setCell ⟨ob, 1, none⟩ (.slice a0 un c0)).setCell ⟨ob, 2, none⟩ (.slice a1 mn c1)).setCell ⟨ob, 3, none⟩ (.slice a2 ln c2)) = W at HT Z4 g ⊢
        obtain ⟨z0, z1, z2, z3⟩ := Z4
        go_wp2_with fail
        refine bodyPost_ret (v := .agg #[.int .i64 id, .slice a0 un c0, .slice a1 mn c1, .slice a2 ln c2]) (by simp [results, Try.results157, go_sem, *]) rfl ?_
        exact ⟨a0, c0, a1, c1, a2, c2, rfl, g, HT.out.base hwY⟩
      · have gAl : Below U54.heap.size U54 (U54.alloc (.cells #[] 2)) := by go_grown
        have h1 : (U54.alloc (.cells #[] 2)).ownsRow Y.heap.size 2 1 (.slice (some ⟨U54.heap.size, 0, none⟩) 0 0) ([] : List Int).length (flat inE []) := ownsRow_base (own_litN U54 2 1) hbY.size
        go_simp
        refine hK.out _ _ ⟨hHeld.1.below gAl hHeld.1.lt, hHeld.2.trans (gAl.mono hHeld.2.size)⟩ (fun hHeld => ?_)
        clear hK K
        have hbY := hbY.trans (gAl.mono hbY.size)
        have h0 := ownsRow_below h0 gAl
        have h2 := ownsRow_below h2 gAl
        clear gAl
        generalize U54.alloc (.cells #[] 2) = U59 at hHeld hbY h1 h0 h2 ⊢
        generalize U54.heap.size = g1 at h1 ⊢
        try simp only [Act.put]
        try simp only [List.setIfInBounds_toArray]
        try simp only [List.set]
        refine wpAnyH_ready (rs := [5]) (by kernel_rfl) (by simp) ?_
        refine AllReadyH.cons rfl (fun K hK => ?_) (AllReadyH.nil)
        rw [if_pos (by kernel_rfl)]
        refine wp_append_sl elC _ _ _ rfl Y.heap.size _ [] us ua un uc rfl rfl HU.out.1 h0 (HR0.out _ hHeld.2) (by rw [HU.out.1]; simp; omega) hbY.size ?_
        intro v0 U60 ho hg _
        have hgB : Below Y.heap.size U59 U60 := Below.grown (Below.refl _ _) hg hbY.size (fun q e => (ownsRow_lo h0 q e).1)
        refine hK.out _ _ ⟨hHeld.1.below hgB hkY, hHeld.2.trans (hgB.mono hwY)⟩ (fun hHeld => ?_)
        clear hK K
        have hbY := hbY.trans hgB
        have h1 := owns_grow h1 h0 (by decide) hg
        have h2 := owns_grow h2 h0 (by decide) hg
        have ho : U60.ownsRow Y.heap.size 61 10 v0 us.length (flat chE us) := ho
        clear h0 hg hgB
        obtain ⟨a0, c0, e0, _⟩ := SlIn.ofRow chE_len ho
        rw [HU.out.1] at e0
        subst e0
        have h0 := ho
        clear ho
        try simp only [Act.put]
        try simp only [List.setIfInBounds_toArray]
        try simp only [List.set]
        refine wpAnyH_ready (rs := [9]) (by kernel_rfl) (by simp) ?_
        refine AllReadyH.cons rfl (fun K hK => ?_) (AllReadyH.nil)
        rw [if_pos (by kernel_rfl)]
        refine wp_append_sl elI _ _ _ rfl Y.heap.size _ [] ms ma mn mc rfl rfl HU.out.2.1 h1 (HR1.out _ hHeld.2) (by rw [HU.out.2.1]; simp; omega) hbY.size ?_
        intro v1 U61 ho hg _
        have hgB : Below Y.heap.size U60 U61 := Below.grown (Below.refl _ _) hg hbY.size (fun q e => (ownsRow_lo h1 q e).1)
        refine hK.out _ _ ⟨hHeld.1.below hgB hkY, hHeld.2.trans (hgB.mono hwY)⟩ (fun hHeld => ?_)
        clear hK K
        have hbY := hbY.trans hgB
        have h0 := owns_grow h0 h1 (by decide) hg
        have h2 := owns_grow h2 h1 (by decide) hg
        have ho : U61.ownsRow Y.heap.size 2 1 v1 ms.length (flat inE ms) := ho
        clear h1 hg hgB
        obtain ⟨a1, c1, e1, _⟩ := SlIn.ofRow inE_len ho
        rw [HU.out.2.1] at e1
        subst e1
        have h1 := ho
        clear ho
        try simp only [Act.put]
        try simp only [List.setIfInBounds_toArray]
        try simp only [List.set]
        refine wpAnyH_ready (rs := [13]) (by kernel_rfl) (by simp) ?_
        refine AllReadyH.cons rfl (fun K hK => ?_) (AllReadyH.nil)
        rw [if_pos (by kernel_rfl)]
        refine wp_append_sl elKs _ _ _ rfl Y.heap.size _ [] ls la ln lc rfl rfl HU.out.2.2 h2 (HR2.out _ hHeld.2) (by rw [HU.out.2.2]; simp; omega) hbY.size ?_
        intro v2 U62 ho hg _
        have hgB : Below Y.heap.size U61 U62 := Below.grown (Below.refl _ _) hg hbY.size (fun q e => (ownsRow_lo h2 q e).1)
        refine hK.out _ _ ⟨hHeld.1.below hgB hkY, hHeld.2.trans (hgB.mono hwY)⟩ (fun hHeld => ?_)
        clear hK K
        have hbY := hbY.trans hgB
        have h0 := owns_grow h0 h2 (by decide) hg
        have h1 := owns_grow h1 h2 (by decide) hg
        have ho : U62.ownsRow Y.heap.size 89 2 v2 ls.length (flat kyE ls) := ho
        clear h2 hg hgB
        obtain ⟨a2, c2, e2, _⟩ := SlIn.ofRow kyE_len ho
        rw [HU.out.2.2] at e2
        subst e2
        have h2 := ho
        clear ho
        try simp only [Act.put]
        try simp only [List.setIfInBounds_toArray]
        try simp only [List.set]
        refine wpAnyH_take (i := 14) (v := ?v22) rfl (by kernel_rfl) (by kernel_rfl) (by kernel_rfl) (fun _ _ _ h => h) (Or.inl ⟨by kernel_rfl, ?h22⟩) hHeld ?_
        case h22 => intro u hSw; (obtain ⟨q0, q1, q2, q3⟩ := hSw.1); go_simp; try with_reducible rfl
        try simp only [List.getElem_toArray]
        try simp only [List.getElem_cons_succ]
        try simp only [List.getElem_cons_zero]
        try simp only [Act.put]
        try simp only [List.setIfInBounds_toArray]
        try simp only [List.set]
        obtain ⟨⟨z0, z1, z2, z3⟩, zf⟩ := HO.out _ hbY
        have f0 := zf 0
        have f1 := zf 1
        have f2 := zf 2
        have f3 := zf 3
        clear zf
        have T : Turned ob (ob + 1) U62 ((((U62.setCell ⟨ob, 0, none⟩ (.int .i64 id)).setCell ⟨ob, 1, none⟩ (.slice a0 un c0)).setCell ⟨ob, 2, none⟩ (.slice a1 mn c1)).setCell ⟨ob, 3, none⟩ (.slice a2 ln c2)) := ((((Turned.refl _ _ U62).setCell (p := ⟨ob, 0, none⟩) (Nat.le_refl _) (Nat.lt_succ_self _) _).setCell (p := ⟨ob, 1, none⟩) (Nat.le_refl _) (Nat.lt_succ_self _) _).setCell (p := ⟨ob, 2, none⟩) (Nat.le_refl _) (Nat.lt_succ_self _) _).setCell (p := ⟨ob, 3, none⟩) (Nat.le_refl _) (Nat.lt_succ_self _) _
        have HT : Hid (OneT Y.heap.size ((((U62.setCell ⟨ob, 0, none⟩ (.int .i64 id)).setCell ⟨ob, 1, none⟩ (.slice a0 un c0)).setCell ⟨ob, 2, none⟩ (.slice a1 mn c1)).setCell ⟨ob, 3, none⟩ (.slice a2 ln c2)) ⟨id, a0, un, c0, a1, mn, c1, a2, ln, c2⟩ ⟨id, us, ms, ls⟩) := fin1 T hob h0 h1 h2 HU.out.1 HU.out.2.1 HU.out.2.2
        refine wpAnyH_ready (rs := [15]) (by kernel_rfl) (by simp) ?_
        refine AllReadyH.cons rfl (fun K hK => ?_) AllReadyH.nil
        go_simp
        refine hK.out _ _ ⟨hHeld.1.other T hkob, hHeld.2.trans (T.toBelow hHeld.2.size hwob)⟩ (fun hHeld => ?_)
        clear hK K
        try simp only [Act.put]
        try simp only [List.setIfInBounds_toArray]
        try simp only [List.set]
        refine wpAnyH_done (by kernel_rfl) ?_ _
        have Z4 : T4 ((((U62.setCell ⟨ob, 0, none⟩ (.int .i64 id)).setCell ⟨ob, 1, none⟩ (.slice a0 un c0)).setCell ⟨ob, 2, none⟩ (.slice a1 mn c1)).setCell ⟨ob, 3, none⟩ (.slice a2 ln c2)) ob id a0 un c0 a1 mn c1 a2 ln c2 := ⟨by simp [go_sem, z0], by simp [go_sem, z1], by simp [go_sem, z2], by simp [go_sem, z3]⟩
        have g := hHeld.2
        clear hHeld T z0 z1 z2 z3 f0 f1 f2 f3 h0 h1 h2 hbY
        generalize ((((U62.setCell ⟨ob, 0, none⟩ (.int .i64 id)).setCell ⟨ob, 1, none⟩ (.slice a0 un c0)).setCell ⟨ob, 2, none⟩ (.slice a1 mn c1)).setCell ⟨ob, 3, none⟩ (.slice a2 ln c2)) = W at HT Z4 g ⊢
        obtain ⟨z0, z1, z2, z3⟩ := Z4
        go_wp2_with fail
        refine bodyPost_ret (v := .agg #[.int .i64 id, .slice a0 un c0, .slice a1 mn c1, .slice a2 ln c2]) (by simp [results, Try.results157, go_sem, *]) rfl ?_
        exact ⟨a0, c0, a1, c1, a2, c2, rfl, g, HT.out.base hwY⟩
    · have gAl : Below U53.heap.size U53 (U53.alloc (.cells #[] 2)) := by go_grown
      have h1 : (U53.alloc (.cells #[] 2)).ownsRow Y.heap.size 2 1 (.slice (some ⟨U53.heap.size, 0, none⟩) 0 0) ([] : List Int).length (flat inE []) := ownsRow_base (own_litN U53 2 1) hbY.size
      go_simp
      refine hK.out _ _ ⟨hHeld.1.below gAl hHeld.1.lt, hHeld.2.trans (gAl.mono hHeld.2.size)⟩ (fun hHeld => ?_)
      clear hK K
      have hbY := hbY.trans (gAl.mono hbY.size)
      have h2 := ownsRow_below h2 gAl
      clear gAl
      generalize U53.alloc (.cells #[] 2) = U63 at hHeld hbY h1 h2 ⊢
      generalize U53.heap.size = g1 at h1 ⊢
      try simp only [Act.put]
      try simp only [List.setIfInBounds_toArray]
      try simp only [List.set]
      refine wpAnyH_ready (rs := [2]) (by kernel_rfl) (by simp) ?_
      refine AllReadyH.cons rfl (fun K hK => ?_) (AllReadyH.nil)
      have gAl : Below U63.heap.size U63 (U63.alloc (.cells #[] 61)) := by go_grown
      have h0 : (U63.alloc (.cells #[] 61)).ownsRow Y.heap.size 61 10 (.slice (some ⟨U63.heap.size, 0, none⟩) 0 0) ([] : List Chg).length (flat chE []) := ownsRow_base (own_litN U63 61 10) hbY.size
      go_simp
      refine hK.out _ _ ⟨hHeld.1.below gAl hHeld.1.lt, hHeld.2.trans (gAl.mono hHeld.2.size)⟩ (fun hHeld => ?_)
      clear hK K
      have hbY := hbY.trans (gAl.mono hbY.size)
      have h1 := ownsRow_below h1 gAl
      have h2 := ownsRow_below h2 gAl
      clear gAl
      generalize U63.alloc (.cells #[] 61) = U64 at hHeld hbY h0 h1 h2 ⊢
      generalize U63.heap.size = g0 at h0 ⊢
      try simp only [Act.put]
      try simp only [List.setIfInBounds_toArray]
      try simp only [List.set]
      refine wpAnyH_ready (rs := [5]) (by kernel_rfl) (by simp) ?_
      refine AllReadyH.cons rfl (fun K hK => ?_) (AllReadyH.nil)
      rw [if_pos (by kernel_rfl)]
      refine wp_append_sl elC _ _ _ rfl Y.heap.size _ [] us ua un uc rfl rfl HU.out.1 h0 (HR0.out _ hHeld.2) (by rw [HU.out.1]; simp; omega) hbY.size ?_
      intro v0 U65 ho hg _
      have hgB : Below Y.heap.size U64 U65 := Below.grown (Below.refl _ _) hg hbY.size (fun q e => (ownsRow_lo h0 q e).1)
      refine hK.out _ _ ⟨hHeld.1.below hgB hkY, hHeld.2.trans (hgB.mono hwY)⟩ (fun hHeld => ?_)
      clear hK K
      have hbY := hbY.trans hgB
      have h1 := owns_grow h1 h0 (by decide) hg
      have h2 := owns_grow h2 h0 (by decide) hg
      have ho : U65.ownsRow Y.heap.size 61 10 v0 us.length (flat chE us) := ho
      clear h0 hg hgB
      obtain ⟨a0, c0, e0, _⟩ := SlIn.ofRow chE_len ho
      rw [HU.out.1] at e0
      subst e0
      have h0 := ho
      clear ho
      try simp only [Act.put]
      try simp only [List.setIfInBounds_toArray]
      try simp only [List.set]
      refine wpAnyH_ready (rs := [9]) (by kernel_rfl) (by simp) ?_
      refine AllReadyH.cons rfl (fun K hK => ?_) (AllReadyH.nil)
      rw [if_pos (by kernel_rfl)]
      refine wp_append_sl elI _ _ _ rfl Y.heap.size _ [] ms ma mn mc rfl rfl HU.out.2.1 h1 (HR1.out _ hHeld.2) (by rw [HU.out.2.1]; simp; omega) hbY.size ?_
      intro v1 U66 ho hg _
      have hgB : Below Y.heap.size U65 U66 := Below.grown (Below.refl _ _) hg hbY.size (fun q e => (ownsRow_lo h1 q e).1)
      refine hK.out _ _ ⟨hHeld.1.below hgB hkY, hHeld.2.trans (hgB.mono hwY)⟩ (fun hHeld => ?_)
      clear hK K
      have hbY := hbY.trans hgB
      have h0 := owns_grow h0 h1 (by decide) hg
      have h2 := owns_grow h2 h1 (by decide) hg
      have ho : U66.ownsRow Y.heap.size 2 1 v1 ms.length (flat inE ms) := ho
      clear h1 hg hgB
      obtain ⟨a1, c1, e1, _⟩ := SlIn.ofRow inE_len ho
      rw [HU.out.2.1] at e1
      subst e1
      have h1 := ho
      clear ho
      try simp only [Act.put]
      try simp only [List.setIfInBounds_toArray]
      try simp only [List.set]
      refine wpAnyH_ready (rs := [13]) (by kernel_rfl) (by simp) ?_
      refine AllReadyH.cons rfl (fun K hK => ?_) (AllReadyH.nil)
      rw [if_pos (by kernel_rfl)]
      refine wp_append_sl elKs _ _ _ rfl Y.heap.size _ [] ls la ln lc rfl rfl HU.out.2.2 h2 (HR2.out _ hHeld.2) (by rw [HU.out.2.2]; simp; omega) hbY.size ?_
      intro v2 U67 ho hg _
      have hgB : Below Y.heap.size U66 U67 := Below.grown (Below.refl _ _) hg hbY.size (fun q e => (ownsRow_lo h2 q e).1)
      refine hK.out _ _ ⟨hHeld.1.below hgB hkY, hHeld.2.trans (hgB.mono hwY)⟩ (fun hHeld => ?_)
      clear hK K
      have hbY := hbY.trans hgB
      have h0 := owns_grow h0 h2 (by decide) hg
      have h1 := owns_grow h1 h2 (by decide) hg
      have ho : U67.ownsRow Y.heap.size 89 2 v2 ls.length (flat kyE ls) := ho
      clear h2 hg hgB
      obtain ⟨a2, c2, e2, _⟩ := SlIn.ofRow kyE_len ho
      rw [HU.out.2.2] at e2
      subst e2
      have h2 := ho
      clear ho
      try simp only [Act.put]
      try simp only [List.setIfInBounds_toArray]
      try simp only [List.set]
      refine wpAnyH_take (i := 14) (v := ?v23) rfl (by kernel_rfl) (by kernel_rfl) (by kernel_rfl) (fun _ _ _ h => h) (Or.inl ⟨by kernel_rfl, ?h23⟩) hHeld ?_
      case h23 => intro u hSw; (obtain ⟨q0, q1, q2, q3⟩ := hSw.1); go_simp; try with_reducible rfl
      try simp only [List.getElem_toArray]
      try simp only [List.getElem_cons_succ]
      try simp only [List.getElem_cons_zero]
      try simp only [Act.put]
      try simp only [List.setIfInBounds_toArray]
      try simp only [List.set]
      obtain ⟨⟨z0, z1, z2, z3⟩, zf⟩ := HO.out _ hbY
      have f0 := zf 0
      have f1 := zf 1
      have f2 := zf 2
      have f3 := zf 3
      clear zf
      have T : Turned ob (ob + 1) U67 ((((U67.setCell ⟨ob, 0, none⟩ (.int .i64 id)).setCell ⟨ob, 1, none⟩ (.slice a0 un c0)).setCell ⟨ob, 2, none⟩ (.slice a1 mn c1)).setCell ⟨ob, 3, none⟩ (.slice a2 ln c2)) := ((((Turned.refl _ _ U67).setCell (p := ⟨ob, 0, none⟩) (Nat.le_refl _) (Nat.lt_succ_self _) _).setCell (p := ⟨ob, 1, none⟩) (Nat.le_refl _) (Nat.lt_succ_self _) _).setCell (p := ⟨ob, 2, none⟩) (Nat.le_refl _) (Nat.lt_succ_self _) _).setCell (p := ⟨ob, 3, none⟩) (Nat.le_refl _) (Nat.lt_succ_self _) _
      have HT : Hid (OneT Y.heap.size ((((U67.setCell ⟨ob, 0, none⟩ (.int .i64 id)).setCell ⟨ob, 1, none⟩ (.slice a0 un c0)).setCell ⟨ob, 2, none⟩ (.slice a1 mn c1)).setCell ⟨ob, 3, none⟩ (.slice a2 ln c2)) ⟨id, a0, un, c0, a1, mn, c1, a2, ln, c2⟩ ⟨id, us, ms, ls⟩) := fin1 T hob h0 h1 h2 HU.out.1 HU.out.2.1 HU.out.2.2
      refine wpAnyH_ready (rs := [15]) (by kernel_rfl) (by simp) ?_
      refine AllReadyH.cons rfl (fun K hK => ?_) AllReadyH.nil
      go_simp
      refine hK.out _ _ ⟨hHeld.1.other T hkob, hHeld.2.trans (T.toBelow hHeld.2.size hwob)⟩ (fun hHeld => ?_)
      clear hK K
      try simp only [Act.put]
      try simp only [List.setIfInBounds_toArray]
      try simp only [List.set]
      refine wpAnyH_done (by kernel_rfl) ?_ _
      have Z4 : T4 ((((U67.setCell ⟨ob, 0, none⟩ (.int .i64 id)).setCell ⟨ob, 1, none⟩ (.slice a0 un c0)).setCell ⟨ob, 2, none⟩ (.slice a1 mn c1)).setCell ⟨ob, 3, none⟩ (.slice a2 ln c2)) ob id a0 un c0 a1 mn c1 a2 ln c2 := ⟨by simp [go_sem, z0], by simp [go_sem, z1], by simp [go_sem, z2], by simp [go_sem, z3]⟩
      have g := hHeld.2
      clear hHeld T z0 z1 z2 z3 f0 f1 f2 f3 h0 h1 h2 hbY
      generalize ((((U67.setCell ⟨ob, 0, none⟩ (.int .i64 id)).setCell ⟨ob, 1, none⟩ (.slice a0 un c0)).setCell ⟨ob, 2, none⟩ (.slice a1 mn c1)).setCell ⟨ob, 3, none⟩ (.slice a2 ln c2)) = W at HT Z4 g ⊢
      obtain ⟨z0, z1, z2, z3⟩ := Z4
      go_wp2_with fail
      refine bodyPost_ret (v := .agg #[.int .i64 id, .slice a0 un c0, .slice a1 mn c1, .slice a2 ln c2]) (by simp [results, Try.results157, go_sem, *]) rfl ?_
      exact ⟨a0, c0, a1, c1, a2, c2, rfl, g, HT.out.base hwY⟩

set_option maxHeartbeats 8000000 in
theorem l10Copy_any (a : Option Addr) (xs : List TxV) (n c : Nat) (w : World) (hn : xs.length = n) (hm : n ≤ 1048576) (hs : ∀ x ∈ xs, TxOk 1048576 x) (hr : TxRd w a xs) :
    Calls Try.prog 125 #[.slice a n c] w fun e w' => ∃ a' c' hs, e = .returned (.slice a' n c') ∧ Below w.heap.size w w' ∧ w'.ownsRow w.heap.size 110 4 (.slice a' n c') hs.length (flat hdE hs) ∧ LsC w.heap.size w' hs xs := by
  have HN : Hid (xs.length = n) := hn
  have HR : Hid (∀ V, Below w.heap.size w V → TxRd V a xs) := fun V hV => hr.below hV (Nat.le_refl _)
  have HS : Hid (∀ x ∈ xs, TxOk 1048576 x) := hs
  clear hn hs hr
  go_enter Try.func125, Try.ntmps125
  go_upto_region 2 with (fail)
  have g0 : Below w.heap.size w (w.alloc (.cells #[] 110)) := by go_grown
  have ho0 : (w.alloc (.cells #[] 110)).ownsRow w.heap.size 110 4 (.slice (some ⟨w.heap.size, 0, none⟩) 0 0) ([] : List TxH).length (flat hdE []) := own_litN w 110 4
  generalize w.alloc (.cells #[] 110) = Y0 at ho0 g0 ⊢
  generalize (Value.slice (some ⟨w.heap.size, 0, none⟩) 0 0) = v0 at ho0 ⊢
  go_wp2_with fail
  go_loopw [4, 3] (fun i v wr => ∃ (j : Nat) (hs : List TxH), j ≤ n ∧ i = .int .i64 j ∧ Below w.heap.size w wr ∧ wr.ownsRow w.heap.size 110 4 v hs.length (flat hdE hs) ∧ LsC w.heap.size wr hs (xs.take j)) (fun i _ _ => n - (intOf i).toNat)
  case atStart => exact ⟨0, [], Nat.zero_le _, rfl, g0, ho0, LsC.nil _ _⟩
  case round =>
    clear ho0 g0
    obtain ⟨j, hs, hj, rfl, g, ho, hL⟩ := hrel
    by_cases hlt : j < n
    · have hjn : (j : Int) < (n : Int) := by omega
      obtain ⟨x, hx⟩ := at_ltT (xs := xs) (i := j) (by rw [HN.out]; exact hlt)
      obtain ⟨b, off, ua, ma, la, uc, mc, lc, e0, Z⟩ := (HR.out wr g).at hx
      obtain rfl := e0
      have HF : Hid (xs.take (j + 1) = xs.take j ++ [x]) := take_snoc hx
      have hhl : hs.length ≤ 1048576 := by rw [hL.len, List.length_take]; omega
      have hok := HS.out x (List.mem_of_getElem? hx)
      clear hx
      obtain ⟨id, us, ms, ls⟩ := x
      obtain ⟨k1, -, k3, k4⟩ := hok
      obtain ⟨c0, c1, c2, c3, hru, hrm, hrl⟩ := Z
      dsimp only at c0 c1 c2 c3 hru hrm hrl k1 k3 k4
      have hcon := l10CopyOne_any id ua us us.length uc ma ms ms.length mc la ls ls.length lc wr rfl k1 hru rfl k3 hrm rfl k4 hrl
      clear hru hrm hrl k1 k3 k4
      generalize us.length = un at c1 hcon
      generalize ms.length = mn at c2 hcon
      generalize ls.length = ln at c3 hcon
      go_wp2_with fail
      refine hcon.mono ?_
      rintro e V3 ⟨a1, d1, a2, d2, a3, d3, rfl, g3, t3⟩
      have L3 : LsC w.heap.size V3 (hs ++ [(⟨id, a1, un, d1, a2, mn, d2, a3, ln, d3⟩ : TxH)]) (xs.take (j + 1)) := by
        rw [HF.out]
        exact hL.snoc g3 (t3.base g.size) (fun q hq => (t3.lo q hq).1)
      have ho := ownsRow_below ho g3
      have g := g.trans (g3.mono g.size)
      clear hcon g3 t3 c0 c1 c2 c3 hL
      have gAl : Below V3.heap.size V3 (V3.alloc (.cells (hdE (⟨id, a1, un, d1, a2, mn, d2, a3, ln, d3⟩ : TxH)).toArray 110)) := by go_grown
      have hoB := ownsRow_below ho gAl
      go_wp2_with (at_builtin; refine wpList_append_sl elH _ rfl _ _ rfl w.heap.size _ hs [(⟨id, a1, un, d1, a2, mn, d2, a3, ln, d3⟩ : TxH)] (some ⟨V3.heap.size, 0, none⟩) 1 1 rfl rfl rfl hoB (rs_one (enc := hdE) V3 (⟨id, a1, un, d1, a2, mn, d2, a3, ln, d3⟩ : TxH) 110) (show hs.length + 1 ≤ 100000000 by omega) (by have := g.size; simp; omega) ?_)
      intro v' w' ho' hg' _
      have g' : Below w.heap.size w w' := Below.grown (g.trans (gAl.mono g.size)) hg' (by have := g.size; have := gAl.size; omega) (fun k e => (ho.lt k e).1)
      have HL : Hid (LsC w.heap.size w' (hs ++ [(⟨id, a1, un, d1, a2, mn, d2, a3, ln, d3⟩ : TxH)]) (xs.take (j + 1))) := (L3.below gAl).kp ⟨hg'.size, hg'.block⟩ ((L3.below gAl).head hoB)
      have HO : Hid (w'.ownsRow w.heap.size 110 4 v' (hs ++ [(⟨id, a1, un, d1, a2, mn, d2, a3, ln, d3⟩ : TxH)]).length (flat hdE (hs ++ [(⟨id, a1, un, d1, a2, mn, d2, a3, ln, d3⟩ : TxH)]))) := by
        show World.ownsRow _ _ _ _ _ _ _
        first | exact ho' | (rw [List.length_append]; exact ho')
      clear ho ho' hg' hoB gAl g L3
      go_wp2_with fail
      go_roundw
      case rel => exact ⟨j + 1, hs ++ [(⟨id, a1, un, d1, a2, mn, d2, a3, ln, d3⟩ : TxH)], by omega, by go_num, g', HO.out, HL.out⟩
      case measure => simp [intOf]; omega
    · have e : j = n := by omega
      subst e
      have HE : Hid (xs.take j = xs) := List.take_of_length_le (by rw [HN.out]; exact Nat.le_refl _)
      rw [HE.out] at hL
      obtain ⟨a', c', rfl, _⟩ := SlIn.ofRow hdE_len ho
      have HLn : Hid (hs.length = j) := by show _ = _; rw [hL.len]; exact HN.out
      have HO : Hid (wr.ownsRow w.heap.size 110 4 (.slice a' j c') hs.length (flat hdE hs)) := by have h := ho; rw [HLn.out] at h; show World.ownsRow _ _ _ _ _ _ _; rw [HLn.out]; exact h
      have HL : Hid (LsC w.heap.size wr hs xs) := hL
      rw [HLn.out]
      clear ho hL
      go_wp2_with fail
      refine bodyPost_ret (v := .slice a' j c') (by simp [results, Try.results125, go_sem]) rfl ?_
      exact ⟨a', c', hs, rfl, g, HO.out, HL.out⟩

end Go.Proofs.Ytmboclfgldgefaa
