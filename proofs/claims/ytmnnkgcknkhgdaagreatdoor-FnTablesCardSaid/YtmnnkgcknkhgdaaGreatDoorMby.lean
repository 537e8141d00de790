/-
  The program's MayBe.
-/
import Derived.Test.YtmnnkgcknkhgdaaGreatDoorTel
import Derived.Test.YtmnnkgcknkhgdaaGreatDoorChf
namespace Go.Proofs.YtmnnkgcknkhgdaaGreatDoor
open Go.RowKit
set_option linter.unusedVariables false

/-- What MayBe tells of rows and a change without a fault. -/
def mbF (rs : List Rw) (x : Chg) : Int := if kT x = 0 then (if x.is = true then telQ rs x.a else untQ rs x.b) else if x.is = true then entQ rs x.a else 0
/-- What MayBe answers. -/
def mbQ (rs : List Rw) (x : Chg) : Int := if orI (rowsQ rs) (chQ x) = 0 then mbF rs x else orI (rowsQ rs) (chQ x)

structure MbS (w : World) (b : Nat) (x : Chg) (V : World) : Prop where
  c : ChC V b 0 x
  g : Below w.heap.size w V
theorem MbS.up {w V W : World} {b : Nat} {x : Chg} (h : MbS w b x V) (hb : Below V.heap.size V W) : MbS w b x W := ⟨h.c.below hb h.c.lt, h.g.trans (hb.mono h.g.size)⟩
theorem MbS.drew {w V : World} {b : Nat} {x : Chg} (h : MbS w b x V) : MbS w b x V.drew := ⟨⟨h.c.c0, h.c.c1, h.c.c2, h.c.c3, h.c.c4, h.c.c5, h.c.c6, h.c.c7, h.c.c8, h.c.c9⟩, h.g.drew⟩

theorem fieldKey (t k : Int) (W : World) : (Instr.field 41 (.agg #[.int .i64 t, .int .i64 k]) 0).run Tryz.prog W = .ok (.int .i64 t) W := by kernel_rfl

set_option maxRecDepth 20000 in
set_option maxHeartbeats 4000000 in
theorem implMayBe_any (a : Option Addr) (rs : List Rw) (n c : Nat) (x0 : Bool) (bt bk bv : Int) (bs : ByteArray) (x5 : Bool) (at' ak av : Int) (sa : ByteArray) (w : World) (hn : rs.length = n) (hm : n ≤ 9223372036854775807) (hs : ∀ r ∈ rs, r.s.size ≤ maxLen) (hb : bs.size ≤ maxLen) (ha : sa.size ≤ maxLen) (hr : Rs rwE 4 w a rs) (hE : Errs w) :
    Calls Tryz.prog 6 #[.slice a n c, .agg #[.bool x0, .int .i64 bt, .int .i64 bk, .int .i64 bv, .string bs, .bool x5, .int .i64 at', .int .i64 ak, .int .i64 av, .string sa]] w fun e w' => e = .returned (.int .i64 (mbQ rs ⟨x0, ⟨bt, bk, bv, bs⟩, x5, ⟨at', ak, av, sa⟩⟩)) ∧ Below w.heap.size w w' := by
  have HN : Hid (rs.length = n) := hn
  have HR : Hid (∀ W, Below w.heap.size w W → Rs rwE 4 W a rs) := fun W hW => hr.below hW (Nat.le_refl _)
  have HE : Hid (∀ W, Below w.heap.size w W → Errs W) := fun W hW => hE.below hW
  have HS : Hid (∀ r ∈ rs, r.s.size ≤ maxLen) := hs
  obtain ⟨q1, hq1⟩ : ∃ q, q = rowsQ rs := ⟨_, rfl⟩
  have HQ1 : Hid (rowsQ rs = q1) := hq1.symm
  obtain ⟨q2, hq2⟩ : ∃ q, q = chQ ⟨x0, ⟨bt, bk, bv, bs⟩, x5, ⟨at', ak, av, sa⟩⟩ := ⟨_, rfl⟩
  have HQ2 : Hid (chQ ⟨x0, ⟨bt, bk, bv, bs⟩, x5, ⟨at', ak, av, sa⟩⟩ = q2) := hq2.symm
  clear hn hr hs hE hq1 hq2
  go_enter Tryz.func6, Tryz.ntmps6
  go_upto_region 1 with (fail)
  generalize hY : World.alloc _ _ = Y
  have H : MbS w w.heap.size ⟨x0, ⟨bt, bk, bv, bs⟩, x5, ⟨at', ak, av, sa⟩⟩ Y := by
    rw [← hY]
    exact ⟨⟨by simp [go_sem], by simp [go_sem], by simp [go_sem], by simp [go_sem], by simp [go_sem], by simp [go_sem], by simp [go_sem], by simp [go_sem], by simp [go_sem], by simp [go_sem]⟩, by go_grown⟩
  clear hY
  refine wp_region_held_drew (S := MbS w w.heap.size ⟨x0, ⟨bt, bk, bv, bs⟩, x5, ⟨at', ak, av, sa⟩⟩) (by kernel_rfl) H.drew (fun hHeld => ?_)
  generalize Y.drew = D at hHeld ⊢
  clear H
  refine wpAnyH_take (i := 0) (v := ?v1) rfl (by kernel_rfl) (by kernel_rfl) (by kernel_rfl) (fun _ _ _ h => h) (Or.inl ⟨by kernel_rfl, ?h1⟩) hHeld ?_
  case h1 => intro u hSw; clear hSw; go_simp; try with_reducible rfl
  try simp only [List.getElem_toArray]
  try simp only [List.getElem_cons_succ]
  try simp only [List.getElem_cons_zero]
  try simp only [Act.put]
  try simp only [List.setIfInBounds_toArray]
  try simp only [List.set]
  refine wpAnyH_take (i := 2) (v := ?v2) rfl (by kernel_rfl) (by kernel_rfl) (by kernel_rfl) (fun _ _ _ h => h) (Or.inl ⟨by kernel_rfl, ?h2⟩) hHeld ?_
  case h2 => intro u hSw; (obtain ⟨z0, z1, z2, z3, z4, z5, z6, z7, z8, z9⟩ := hSw.c; dsimp only at z0 z1 z2 z3 z4 z5 z6 z7 z8 z9); clear hSw; go_simp; try with_reducible rfl
  try simp only [List.getElem_toArray]
  try simp only [List.getElem_cons_succ]
  try simp only [List.getElem_cons_zero]
  try simp only [Act.put]
  try simp only [List.setIfInBounds_toArray]
  try simp only [List.set]
  refine wpAnyH_ready (rs := [1]) (by kernel_rfl) (by simp) ?_
  refine AllReadyH.cons rfl (fun K hK => ?_) AllReadyH.nil
  go_simp
  go_wp2_with (go_at_call 22; refine (implRowsFault_any a rs n c _ HN.out (by omega) HS.out (HR.out _ hHeld.g)).mono ?_; rintro e D1 ⟨rfl, gb⟩)
  refine hK.out _ _ (hHeld.up gb) (fun hHeld => ?_)
  clear hK K
  clear gb
  try simp only [Act.put]
  try simp only [List.setIfInBounds_toArray]
  try simp only [List.set]
  rw [HQ1.out]
  refine wpAnyH_ready (rs := [3]) (by kernel_rfl) (by simp) ?_
  refine AllReadyH.cons rfl (fun K hK => ?_) AllReadyH.nil
  go_simp
  go_wp2_with (go_at_call 23; refine (changeFault_any x0 bt bk bv bs x5 at' ak av sa _ hb ha).mono ?_; rintro e D2 ⟨rfl, gb⟩)
  refine hK.out _ _ (hHeld.up gb) (fun hHeld => ?_)
  clear hK K
  clear gb
  try simp only [Act.put]
  try simp only [List.setIfInBounds_toArray]
  try simp only [List.set]
  rw [HQ2.out]
  refine wpAnyH_ready (rs := [4]) (by kernel_rfl) (by simp) ?_
  refine AllReadyH.cons rfl (fun K hK => ?_) AllReadyH.nil
  go_simp
  go_wp2_with fail
  refine hK.out _ _ (hHeld.up (by go_grown)) (fun hHeld => ?_)
  clear hK K
  try simp only [Act.put]
  try simp only [List.setIfInBounds_toArray]
  try simp only [List.set]
  refine wpAnyH_ready (rs := [5]) (by kernel_rfl) (by simp) ?_
  refine AllReadyH.cons rfl (fun K hK => ?_) AllReadyH.nil
  go_simp
  go_wp2_with (go_at_call 21; refine (or64_any _ q1 q2 _ (by simp [go_sem]) (by simp [go_sem])).mono ?_; rintro e D3 ⟨rfl, rfl⟩)
  refine hK.out _ _ (hHeld) (fun hHeld => ?_)
  clear hK K
  try simp only [Act.put]
  try simp only [List.setIfInBounds_toArray]
  try simp only [List.set]
  refine wpAnyH_take (i := 6) (v := ?v3) rfl (by kernel_rfl) (by kernel_rfl) (by kernel_rfl) (fun _ _ _ h => h) (Or.inl ⟨by kernel_rfl, ?h3⟩) hHeld ?_
  case h3 => intro u hSw; clear hSw; go_simp; try with_reducible rfl
  try simp only [List.getElem_toArray]
  try simp only [List.getElem_cons_succ]
  try simp only [List.getElem_cons_zero]
  try simp only [Act.put]
  try simp only [List.setIfInBounds_toArray]
  try simp only [List.set]
  refine wpAnyH_done (by kernel_rfl) ?_ _
  have HO : Hid (mbQ rs ⟨x0, ⟨bt, bk, bv, bs⟩, x5, ⟨at', ak, av, sa⟩⟩ = if orI q1 q2 = 0 then mbF rs ⟨x0, ⟨bt, bk, bv, bs⟩, x5, ⟨at', ak, av, sa⟩⟩ else orI q1 q2) := by show _ = _; unfold mbQ; rw [HQ1.out, HQ2.out]
  have HZ : Hid (orI q1 q2 = 0 → q1 = 0) := fun h => by unfold orI at h; split at h <;> simp_all
  generalize World.alloc _ _ = D4 at hHeld ⊢
  generalize orI q1 q2 = q at HO HZ ⊢
  obtain ⟨C, g⟩ := hHeld
  by_cases hq0 : q = 0
  · subst hq0
    have HO : Hid (mbQ rs ⟨x0, ⟨bt, bk, bv, bs⟩, x5, ⟨at', ak, av, sa⟩⟩ = mbF rs ⟨x0, ⟨bt, bk, bv, bs⟩, x5, ⟨at', ak, av, sa⟩⟩) := by show _ = _; rw [HO.out]; rfl
    have hn60 : n ≤ 60 := by rw [← HN.out]; exact (rowsQ_ok (by rw [HQ1.out]; exact HZ.out rfl)).1
    obtain ⟨z0, z1, z2, z3, z4, z5, z6, z7, z8, z9⟩ := C
    dsimp only at z0 z1 z2 z3 z4 z5 z6 z7 z8 z9
    go_wp2_with fail
    refine (changedKey_any ⟨x0, ⟨bt, bk, bv, bs⟩, x5, ⟨at', ak, av, sa⟩⟩ _).mono ?_
    rintro e D5 ⟨rfl, g5⟩
    have C : ChC D5 w.heap.size 0 ⟨x0, ⟨bt, bk, bv, bs⟩, x5, ⟨at', ak, av, sa⟩⟩ := ChC.below (w := D4) ⟨z0, z1, z2, z3, z4, z5, z6, z7, z8, z9⟩ g5 (World.block_lt_of_cell? D4 _ z0)
    have g := g.trans (g5.mono g.size)
    clear g5 z0 z1 z2 z3 z4 z5 z6 z7 z8 z9
    obtain ⟨z0, z1, z2, z3, z4, z5, z6, z7, z8, z9⟩ := C
    dsimp only at z0 z1 z2 z3 z4 z5 z6 z7 z8 z9
    obtain ⟨t, ht⟩ : ∃ t, t = kT ⟨x0, ⟨bt, bk, bv, bs⟩, x5, ⟨at', ak, av, sa⟩⟩ := ⟨_, rfl⟩
    have HT : Hid (kT ⟨x0, ⟨bt, bk, bv, bs⟩, x5, ⟨at', ak, av, sa⟩⟩ = t) := ht.symm
    rw [← ht]
    clear ht
    generalize kK ⟨x0, ⟨bt, bk, bv, bs⟩, x5, ⟨at', ak, av, sa⟩⟩ = kk
    have hfd := fieldKey t kk D5
    by_cases h0 : t = 0
    · have hd : (t == 0) = true := by simpa using h0
      subst h0
      cases x5
      · have HF : Hid (mbF rs ⟨x0, ⟨bt, bk, bv, bs⟩, false, ⟨at', ak, av, sa⟩⟩ = untQ rs ⟨bt, bk, bv, bs⟩) := by show _ = _; unfold mbF; rw [if_pos HT.out]; rfl
        go_wp2_with fail
        refine (untellFault_any a rs n c bt bk bv bs _ HN.out hn60 HS.out (HR.out _ g)).mono ?_
        rintro e D6 ⟨rfl, g6⟩
        have g := g.trans (g6.mono g.size)
        clear g6
        go_wp2_with fail
        go_ret
        exact ⟨by rw [HO.out, HF.out]; rfl, g⟩
      · have HF : Hid (mbF rs ⟨x0, ⟨bt, bk, bv, bs⟩, true, ⟨at', ak, av, sa⟩⟩ = telQ rs ⟨at', ak, av, sa⟩) := by show _ = _; unfold mbF; rw [if_pos HT.out]; rfl
        go_wp2_with fail
        refine (tellFault_any a rs n c at' ak av sa _ HN.out hn60 HS.out (HR.out _ g)).mono ?_
        rintro e D6 ⟨rfl, g6⟩
        have g := g.trans (g6.mono g.size)
        clear g6
        go_wp2_with fail
        go_ret
        exact ⟨by rw [HO.out, HF.out]; rfl, g⟩
    · have hd : (t == 0) = false := by simpa using h0
      cases x5
      · have HF : Hid (mbF rs ⟨x0, ⟨bt, bk, bv, bs⟩, false, ⟨at', ak, av, sa⟩⟩ = 0) := by show _ = _; unfold mbF; rw [if_neg (by rw [HT.out]; exact h0)]; rfl
        go_wp2_with fail
        go_ret
        exact ⟨by rw [HO.out, HF.out]; rfl, g⟩
      · have HF : Hid (mbF rs ⟨x0, ⟨bt, bk, bv, bs⟩, true, ⟨at', ak, av, sa⟩⟩ = entQ rs ⟨at', ak, av, sa⟩) := by show _ = _; unfold mbF; rw [if_neg (by rw [HT.out]; exact h0)]; rfl
        go_wp2_with fail
        refine (entryFault_any a rs n c at' ak av sa _ HN.out hn60 ha (HR.out _ g) (HE.out _ g)).mono ?_
        rintro e D6 ⟨rfl, g6⟩
        have g := g.trans (g6.mono g.size)
        clear g6
        go_wp2_with fail
        go_ret
        exact ⟨by rw [HO.out, HF.out]; rfl, g⟩
  · have d : (q != 0) = true := by simpa using hq0
    have HO : Hid (mbQ rs ⟨x0, ⟨bt, bk, bv, bs⟩, x5, ⟨at', ak, av, sa⟩⟩ = q) := by show _ = _; rw [HO.out, if_neg hq0]
    go_wp2_with fail
    go_ret
    exact ⟨by rw [HO.out]; rfl, g⟩

end Go.Proofs.YtmnnkgcknkhgdaaGreatDoor

