/-
  tellFault, untellFault, entryFault, changedKey.
-/
import Derived.Test.YtpjlpnaamkbicaaGreatDoorCKIxf
import Derived.Test.YtpjlpnaamkbicaaGreatDoorCKFci
import Derived.Test.YtpjlpnaamkbicaaGreatDoorCKChf

namespace Go.Proofs.YtpjlpnaamkbicaaGreatDoor
open Go.RowKit
set_option linter.unusedVariables false

/-- Whether a row may tell a table. -/
def telB (r : Rw) : Bool := !inW r.k 1 3 || decide (r.v > 8) || !r.s.toList.isEmpty
def telQ (rs : List Rw) (r : Rw) : Int := if telB r = true then 10 else if rs.any (fun x => lngB x r.k r.v) = true then 8 else 0
def untQ (rs : List Rw) (r : Rw) : Int := if rs.any (fun x => decide (x.t = r.k)) = true then 8 else 0
def entQ (rs : List Rw) (r : Rw) : Int := if lonQ rs r.t ≠ 0 then lonQ rs r.t else if (r.s.size : Int) > lonV rs r.t then 10 else 0

set_option maxRecDepth 20000 in
set_option maxHeartbeats 4000000 in
theorem tellFault_any (a : Option Addr) (rs : List Rw) (n c : Nat) (xt xk xv : Int) (xs : ByteArray) (w : World) (hn : rs.length = n) (hm : n ≤ 60) (hs : ∀ r ∈ rs, r.s.size ≤ maxLen) (hr : Rs rwE 4 w a rs) :
    Calls Tryz.prog 98 #[.slice a n c, .agg #[.int .i64 xt, .int .i64 xk, .int .i64 xv, .string xs]] w fun e w' => e = .returned (.int .i64 (telQ rs ⟨xt, xk, xv, xs⟩)) ∧ Below w.heap.size w w' := by
  have gX : Below w.heap.size w (w.alloc (.cells #[.int .i64 xt, .int .i64 xk, .int .i64 xv, .string xs] 31)) := by go_grown
  have hcon := hasLonger_any a rs n c xk xv _ hn hm hs (hr.below gX (Nat.le_refl _))
  have hb := mayBeTold_any xk
  obtain ⟨p, hp⟩ : ∃ p, p = telB ⟨xt, xk, xv, xs⟩ := ⟨_, rfl⟩
  have HP : Hid (telB ⟨xt, xk, xv, xs⟩ = p) := hp.symm
  obtain ⟨y, hy⟩ : ∃ y, y = rs.any (fun x => lngB x xk xv) := ⟨_, rfl⟩
  have HY : Hid (rs.any (fun x => lngB x xk xv) = y) := hy.symm
  have HQ : Hid (telQ rs ⟨xt, xk, xv, xs⟩ = if p = true then 10 else if y = true then 8 else 0) := by show _ = _; unfold telQ; rw [HP.out, HY.out]
  rw [← hy] at hcon
  unfold telB at hp
  dsimp only at hp
  generalize inW xk 1 3 = x1 at hb hp
  clear hr hs hy
  cases x1
  · go_enter Tryz.func98, Tryz.ntmps98
    go_wp2_with fail
    refine (hb _).mono ?_
    rintro e w' ⟨rfl, rfl⟩
    go_wp2_with fail
    go_ret
    exact ⟨by rw [HQ.out, hp]; rfl, by go_grown⟩
  · by_cases h8 : xv > 8
    · go_enter Tryz.func98, Tryz.ntmps98
      go_wp2_with fail
      refine (hb _).mono ?_
      rintro e w' ⟨rfl, rfl⟩
      go_wp2_with fail
      go_ret
      exact ⟨by rw [HQ.out, hp]; simp [h8], by go_grown⟩
    · have h8' : decide (8 < xv) = false := by simpa using h8
      cases he : xs.toList.isEmpty
      · go_enter Tryz.func98, Tryz.ntmps98
        go_wp2_with fail
        refine (hb _).mono ?_
        rintro e w' ⟨rfl, rfl⟩
        go_wp2_with fail
        go_ret
        exact ⟨by rw [HQ.out, hp, he]; simp, by go_grown⟩
      · have hp2 : p = false := by rw [hp, he]; simp; omega
        clear hp
        subst hp2
        have HC : Hid (Calls Tryz.prog _ _ _ _) := hcon
        have HG : Hid (Below _ _ _) := gX
        clear HP HY h8 hcon hn hm gX
        cases y
        · go_enter Tryz.func98, Tryz.ntmps98
          go_wp2_with fail
          refine (hb _).mono ?_
          rintro e w' ⟨rfl, rfl⟩
          go_wp2_with fail
          refine HC.out.mono ?_
          rintro e w' ⟨rfl, g⟩
          have gg := HG.out.trans (g.mono HG.out.size)
          clear HC g
          go_wp2_with fail
          go_ret
          exact ⟨by rw [HQ.out]; rfl, gg⟩
        · go_enter Tryz.func98, Tryz.ntmps98
          go_wp2_with fail
          refine (hb _).mono ?_
          rintro e w' ⟨rfl, rfl⟩
          go_wp2_with fail
          refine HC.out.mono ?_
          rintro e w' ⟨rfl, g⟩
          have gg := HG.out.trans (g.mono HG.out.size)
          clear HC g
          go_wp2_with fail
          go_ret
          exact ⟨by rw [HQ.out]; rfl, gg⟩

set_option maxHeartbeats 1000000 in
theorem untellFault_any (a : Option Addr) (rs : List Rw) (n c : Nat) (xt xk xv : Int) (xs : ByteArray) (w : World) (hn : rs.length = n) (hm : n ≤ 60) (hs : ∀ r ∈ rs, r.s.size ≤ maxLen) (hr : Rs rwE 4 w a rs) :
    Calls Tryz.prog 99 #[.slice a n c, .agg #[.int .i64 xt, .int .i64 xk, .int .i64 xv, .string xs]] w fun e w' => e = .returned (.int .i64 (untQ rs ⟨xt, xk, xv, xs⟩)) ∧ Below w.heap.size w w' := by
  have gX : Below w.heap.size w (w.alloc (.cells #[.int .i64 xt, .int .i64 xk, .int .i64 xv, .string xs] 31)) := by go_grown
  have hcon := hasRows_any a rs n c xk _ hn hm hs (hr.below gX (Nat.le_refl _))
  obtain ⟨y, hy⟩ : ∃ y, y = rs.any (fun x => decide (x.t = xk)) := ⟨_, rfl⟩
  have HQ : Hid (untQ rs ⟨xt, xk, xv, xs⟩ = if y = true then 8 else 0) := by show _ = _; unfold untQ; rw [hy]
  rw [← hy] at hcon
  clear hr hs hy
  cases y
  · go_enter Tryz.func99, Tryz.ntmps99
    go_wp2_with fail
    refine hcon.mono ?_
    rintro e w' ⟨rfl, g⟩
    have gg := gX.trans (g.mono gX.size)
    clear hcon g
    go_wp2_with fail
    go_ret
    exact ⟨by rw [HQ.out]; rfl, gg⟩
  · go_enter Tryz.func99, Tryz.ntmps99
    go_wp2_with fail
    refine hcon.mono ?_
    rintro e w' ⟨rfl, g⟩
    have gg := gX.trans (g.mono gX.size)
    clear hcon g
    go_wp2_with fail
    go_ret
    exact ⟨by rw [HQ.out]; rfl, gg⟩

set_option maxRecDepth 20000 in
set_option maxHeartbeats 1000000 in
theorem entryFault_any (a : Option Addr) (rs : List Rw) (n c : Nat) (xt xk xv : Int) (xs : ByteArray) (w : World) (hn : rs.length = n) (hm : n ≤ 60) (hx : xs.size ≤ maxLen) (hr : Rs rwE 4 w a rs) (hE : Errs w) :
    Calls Tryz.prog 100 #[.slice a n c, .agg #[.int .i64 xt, .int .i64 xk, .int .i64 xv, .string xs]] w fun e w' => e = .returned (.int .i64 (entQ rs ⟨xt, xk, xv, xs⟩)) ∧ Below w.heap.size w w' := by
  have HE : Hid (∀ V, Below w.heap.size w V → Errs V) := fun V hV => hE.below hV
  have gX : Below w.heap.size w (w.alloc (.cells #[.int .i64 xt, .int .i64 xk, .int .i64 xv, .string xs] 31)) := by go_grown
  have hlX : w.heap.size < (w.alloc (.cells #[.int .i64 xt, .int .i64 xk, .int .i64 xv, .string xs] 31)).heap.size := by simp
  have C : RowC (w.alloc (.cells #[.int .i64 xt, .int .i64 xk, .int .i64 xv, .string xs] 31)) w.heap.size 0 ⟨xt, xk, xv, xs⟩ := ⟨by simp [go_sem], by simp [go_sem], by simp [go_sem], by simp [go_sem]⟩
  have hcon := longestText_any a rs n c xt _ hn hm (hr.below gX (Nat.le_refl _))
  obtain ⟨q, hq⟩ : ∃ q, q = lonQ rs xt := ⟨_, rfl⟩
  obtain ⟨l, hl⟩ : ∃ l, l = lonV rs xt := ⟨_, rfl⟩
  have HQ : Hid (entQ rs ⟨xt, xk, xv, xs⟩ = if q ≠ 0 then q else if (xs.size : Int) > l then 10 else 0) := by show _ = _; unfold entQ; rw [hq, hl]
  have HT : Hid (∀ V, Errs V → Calls Tryz.prog 120 #[lonE rs xt] V fun e w' => e = .returned (.int .i64 q) ∧ Below V.heap.size V w') := fun V hV => by rw [hq]; exact tableCode_any rs xt V hV
  rw [← hl] at hcon
  generalize lonE rs xt = er at hcon HT
  clear hr hE hq hl
  go_enter Tryz.func100, Tryz.ntmps100
  go_wp2_with fail
  refine hcon.mono ?_
  rintro e w1 ⟨rfl, g1⟩
  have C := C.below g1 hlX
  have hlX := Nat.lt_of_lt_of_le hlX g1.size
  have g := gX.trans (g1.mono gX.size)
  clear hcon g1 gX
  go_wp2_with fail
  refine (HT.out _ (HE.out _ g)).mono ?_
  rintro e w2 ⟨rfl, g2⟩
  have C := C.below g2 hlX
  have g := g.trans (g2.mono g.size)
  clear g2
  by_cases h0 : q = 0
  · subst h0
    obtain ⟨x0, x1, x2, x3⟩ := C
    dsimp only at x0 x1 x2 x3
    go_wp2_with fail
    refine (textLength_any xt xk xv xs _ hx).mono ?_
    rintro e w3 ⟨rfl, g3⟩
    have g := g.trans (g3.mono g.size)
    clear g3 x0 x1 x2 x3
    by_cases h1 : (xs.size : Int) > l
    · go_wp2_with fail
      go_ret
      exact ⟨by rw [HQ.out, if_neg (by simp), if_pos h1]; rfl, g⟩
    · go_wp2_with fail
      go_ret
      exact ⟨by rw [HQ.out, if_neg (by simp), if_neg (by omega)]; rfl, g⟩
  · have d : (q != 0) = true := by simpa using h0
    go_wp2_with fail
    go_ret
    exact ⟨by rw [HQ.out, if_pos h0]; rfl, g⟩

end Go.Proofs.YtpjlpnaamkbicaaGreatDoor

/-
  The program's MayBe.
-/
namespace Go.Proofs.YtpjlpnaamkbicaaGreatDoor
open Go.RowKit
set_option linter.unusedVariables false

/-- What MayBe tells of rows and a change without a fault. -/
def mbF (rs : List Rw) (x : Chg) : Int := if kT x = 0 then (if x.is = true then telQ rs x.a else untQ rs x.b) else if x.is = true then entQ rs x.a else 0
/-- What MayBe answers. -/
def mbQ (rs : List Rw) (x : Chg) : Int := if orI (rowsQ rs) (chQ x) = 0 then mbF rs x else orI (rowsQ rs) (chQ x)

structure MbS (w : World) (b : Nat) (x : Chg) (V : World) : Prop where
  c : ChC V b 0 x
  g : Below w.heap.size w V
theorem MbS.up {w V W : World} {b : Nat} {x : Chg} (h : MbS w b x V) (hb : Below V.heap.size V W) : MbS w b x W := ⟨h.c.below hb h.c.lt, h.g.trans (hb.mono h.g.size)⟩
theorem MbS.drew {w V : World} {b : Nat} {x : Chg} (h : MbS w b x V) : MbS w b x V.drew := ⟨⟨h.c.c0, h.c.c1, h.c.c2, h.c.c3, h.c.c4, h.c.c5, h.c.c6, h.c.c7, h.c.c8, h.c.c9⟩, h.g.drew⟩

theorem fieldKey (t k : Int) (W : World) : (Instr.field 97 (.agg #[.int .i64 t, .int .i64 k]) 0).run Tryz.prog W = .ok (.int .i64 t) W := by kernel_rfl

set_option maxRecDepth 20000 in
set_option maxHeartbeats 4000000 in
theorem implMayBe_any (a : Option Addr) (rs : List Rw) (n c : Nat) (x0 : Bool) (bt bk bv : Int) (bs : ByteArray) (x5 : Bool) (at' ak av : Int) (sa : ByteArray) (w : World) (hn : rs.length = n) (hm : n ≤ 9223372036854775807) (hs : ∀ r ∈ rs, r.s.size ≤ maxLen) (hb : bs.size ≤ maxLen) (ha : sa.size ≤ maxLen) (hr : Rs rwE 4 w a rs) (hE : Errs w) :
    Calls Tryz.prog 65 #[.slice a n c, .agg #[.bool x0, .int .i64 bt, .int .i64 bk, .int .i64 bv, .string bs, .bool x5, .int .i64 at', .int .i64 ak, .int .i64 av, .string sa]] w fun e w' => e = .returned (.int .i64 (mbQ rs ⟨x0, ⟨bt, bk, bv, bs⟩, x5, ⟨at', ak, av, sa⟩⟩)) ∧ Below w.heap.size w w' := by
  have HN : Hid (rs.length = n) := hn
  have HR : Hid (∀ W, Below w.heap.size w W → Rs rwE 4 W a rs) := fun W hW => hr.below hW (Nat.le_refl _)
  have HE : Hid (∀ W, Below w.heap.size w W → Errs W) := fun W hW => hE.below hW
  have HS : Hid (∀ r ∈ rs, r.s.size ≤ maxLen) := hs
  obtain ⟨q1, hq1⟩ : ∃ q, q = rowsQ rs := ⟨_, rfl⟩
  have HQ1 : Hid (rowsQ rs = q1) := hq1.symm
  obtain ⟨q2, hq2⟩ : ∃ q, q = chQ ⟨x0, ⟨bt, bk, bv, bs⟩, x5, ⟨at', ak, av, sa⟩⟩ := ⟨_, rfl⟩
  have HQ2 : Hid (chQ ⟨x0, ⟨bt, bk, bv, bs⟩, x5, ⟨at', ak, av, sa⟩⟩ = q2) := hq2.symm
  clear hn hr hs hE hq1 hq2
  go_enter Tryz.func65, Tryz.ntmps65
  go_upto_region 1 with (fail)
  generalize hY : World.alloc _ _ = Y
  have H : MbS w w.heap.size ⟨x0, ⟨bt, bk, bv, bs⟩, x5, ⟨at', ak, av, sa⟩⟩ Y := by
    rw [← hY]
    exact ⟨⟨by simp [go_sem], by simp [go_sem], by simp [go_sem], by simp [go_sem], by simp [go_sem], by simp [go_sem], by simp [go_sem], by simp [go_sem], by simp [go_sem], by simp [go_sem]⟩, by go_grown⟩
  clear hY
  refine wp_region_held_drew (S := MbS w w.heap.size ⟨x0, ⟨bt, bk, bv, bs⟩, x5, ⟨at', ak, av, sa⟩⟩) (by kernel_rfl) H.drew (fun hHeld => ?_)
  generalize Y.drew = D at hHeld ⊢
  clear H
  refine wpAnyH_take (i := 0) (v := ?v1) rfl (by kernel_rfl) (by kernel_rfl) (by kernel_rfl) (fun _ _ _ h => h) (Or.inl ⟨by kernel_rfl, ?h1⟩) hHeld ?_
  case h1 => intro u hSw; clear hSw; go_simp; try with_reducible rfl
  try simp only [List.getElem_toArray]
  try simp only [List.getElem_cons_succ]
  try simp only [List.getElem_cons_zero]
  try simp only [Act.put]
  try simp only [List.setIfInBounds_toArray]
  try simp only [List.set]
  refine wpAnyH_take (i := 2) (v := ?v2) rfl (by kernel_rfl) (by kernel_rfl) (by kernel_rfl) (fun _ _ _ h => h) (Or.inl ⟨by kernel_rfl, ?h2⟩) hHeld ?_
  case h2 => intro u hSw; (obtain ⟨z0, z1, z2, z3, z4, z5, z6, z7, z8, z9⟩ := hSw.c; dsimp only at z0 z1 z2 z3 z4 z5 z6 z7 z8 z9); clear hSw; go_simp; try with_reducible rfl
  try simp only [List.getElem_toArray]
  try simp only [List.getElem_cons_succ]
  try simp only [List.getElem_cons_zero]
  try simp only [Act.put]
  try simp only [List.setIfInBounds_toArray]
  try simp only [List.set]
  refine wpAnyH_ready (rs := [1]) (by kernel_rfl) (by simp) ?_
  refine AllReadyH.cons rfl (fun K hK => ?_) AllReadyH.nil
  go_simp
  go_wp2_with (go_at_call 25; refine (implRowsFault_any a rs n c _ HN.out (by omega) HS.out (HR.out _ hHeld.g)).mono ?_; rintro e D1 ⟨rfl, gb⟩)
  refine hK.out _ _ (hHeld.up gb) (fun hHeld => ?_)
  clear hK K
  clear gb
  try simp only [Act.put]
  try simp only [List.setIfInBounds_toArray]
  try simp only [List.set]
  rw [HQ1.out]
  refine wpAnyH_ready (rs := [3]) (by kernel_rfl) (by simp) ?_
  refine AllReadyH.cons rfl (fun K hK => ?_) AllReadyH.nil
  go_simp
  go_wp2_with (go_at_call 96; refine (changeFault_any x0 bt bk bv bs x5 at' ak av sa _ hb ha).mono ?_; rintro e D2 ⟨rfl, gb⟩)
  refine hK.out _ _ (hHeld.up gb) (fun hHeld => ?_)
  clear hK K
  clear gb
  try simp only [Act.put]
  try simp only [List.setIfInBounds_toArray]
  try simp only [List.set]
  rw [HQ2.out]
  refine wpAnyH_ready (rs := [4]) (by kernel_rfl) (by simp) ?_
  refine AllReadyH.cons rfl (fun K hK => ?_) AllReadyH.nil
  go_simp
  go_wp2_with fail
  refine hK.out _ _ (hHeld.up (by go_grown)) (fun hHeld => ?_)
  clear hK K
  try simp only [Act.put]
  try simp only [List.setIfInBounds_toArray]
  try simp only [List.set]
  refine wpAnyH_ready (rs := [5]) (by kernel_rfl) (by simp) ?_
  refine AllReadyH.cons rfl (fun K hK => ?_) AllReadyH.nil
  go_simp
  go_wp2_with (go_at_call 24; refine (or64_any _ q1 q2 _ (by simp [go_sem]) (by simp [go_sem])).mono ?_; rintro e D3 ⟨rfl, rfl⟩)
  refine hK.out _ _ (hHeld) (fun hHeld => ?_)
  clear hK K
  try simp only [Act.put]
  try simp only [List.setIfInBounds_toArray]
  try simp only [List.set]
  refine wpAnyH_take (i := 6) (v := ?v3) rfl (by kernel_rfl) (by kernel_rfl) (by kernel_rfl) (fun _ _ _ h => h) (Or.inl ⟨by kernel_rfl, ?h3⟩) hHeld ?_
  case h3 => intro u hSw; clear hSw; go_simp; try with_reducible rfl
  try simp only [List.getElem_toArray]
  try simp only [List.getElem_cons_succ]
  try simp only [List.getElem_cons_zero]
  try simp only [Act.put]
  try simp only [List.setIfInBounds_toArray]
  try simp only [List.set]
  refine wpAnyH_done (by kernel_rfl) ?_ _
  have HO : Hid (mbQ rs ⟨x0, ⟨bt, bk, bv, bs⟩, x5, ⟨at', ak, av, sa⟩⟩ = if orI q1 q2 = 0 then mbF rs ⟨x0, ⟨bt, bk, bv, bs⟩, x5, ⟨at', ak, av, sa⟩⟩ else orI q1 q2) := by show _ = _; unfold mbQ; rw [HQ1.out, HQ2.out]
  have HZ : Hid (orI q1 q2 = 0 → q1 = 0) := fun h => by unfold orI at h; split at h <;> simp_all
  generalize World.alloc _ _ = D4 at hHeld ⊢
  generalize orI q1 q2 = q at HO HZ ⊢
  obtain ⟨C, g⟩ := hHeld
  by_cases hq0 : q = 0
  · subst hq0
    have HO : Hid (mbQ rs ⟨x0, ⟨bt, bk, bv, bs⟩, x5, ⟨at', ak, av, sa⟩⟩ = mbF rs ⟨x0, ⟨bt, bk, bv, bs⟩, x5, ⟨at', ak, av, sa⟩⟩) := by show _ = _; rw [HO.out]; rfl
    have hn60 : n ≤ 60 := by rw [← HN.out]; exact (rowsQ_ok (by rw [HQ1.out]; exact HZ.out rfl)).1
    obtain ⟨z0, z1, z2, z3, z4, z5, z6, z7, z8, z9⟩ := C
    dsimp only at z0 z1 z2 z3 z4 z5 z6 z7 z8 z9
    go_wp2_with fail
    refine (changedKey_any ⟨x0, ⟨bt, bk, bv, bs⟩, x5, ⟨at', ak, av, sa⟩⟩ _).mono ?_
    rintro e D5 ⟨rfl, g5⟩
    have C : ChC D5 w.heap.size 0 ⟨x0, ⟨bt, bk, bv, bs⟩, x5, ⟨at', ak, av, sa⟩⟩ := ChC.below (w := D4) ⟨z0, z1, z2, z3, z4, z5, z6, z7, z8, z9⟩ g5 (World.block_lt_of_cell? D4 _ z0)
    have g := g.trans (g5.mono g.size)
    clear g5 z0 z1 z2 z3 z4 z5 z6 z7 z8 z9
    obtain ⟨z0, z1, z2, z3, z4, z5, z6, z7, z8, z9⟩ := C
    dsimp only at z0 z1 z2 z3 z4 z5 z6 z7 z8 z9
    obtain ⟨t, ht⟩ : ∃ t, t = kT ⟨x0, ⟨bt, bk, bv, bs⟩, x5, ⟨at', ak, av, sa⟩⟩ := ⟨_, rfl⟩
    have HT : Hid (kT ⟨x0, ⟨bt, bk, bv, bs⟩, x5, ⟨at', ak, av, sa⟩⟩ = t) := ht.symm
    rw [← ht]
    clear ht
    generalize kK ⟨x0, ⟨bt, bk, bv, bs⟩, x5, ⟨at', ak, av, sa⟩⟩ = kk
    have hfd := fieldKey t kk D5
    by_cases h0 : t = 0
    · have hd : (t == 0) = true := by simpa using h0
      subst h0
      cases x5
      · have HF : Hid (mbF rs ⟨x0, ⟨bt, bk, bv, bs⟩, false, ⟨at', ak, av, sa⟩⟩ = untQ rs ⟨bt, bk, bv, bs⟩) := by show _ = _; unfold mbF; rw [if_pos HT.out]; rfl
        go_wp2_with fail
        refine (untellFault_any a rs n c bt bk bv bs _ HN.out hn60 HS.out (HR.out _ g)).mono ?_
        rintro e D6 ⟨rfl, g6⟩
        have g := g.trans (g6.mono g.size)
        clear g6
        go_wp2_with fail
        go_ret
        exact ⟨by rw [HO.out, HF.out]; rfl, g⟩
      · have HF : Hid (mbF rs ⟨x0, ⟨bt, bk, bv, bs⟩, true, ⟨at', ak, av, sa⟩⟩ = telQ rs ⟨at', ak, av, sa⟩) := by show _ = _; unfold mbF; rw [if_pos HT.out]; rfl
        go_wp2_with fail
        refine (tellFault_any a rs n c at' ak av sa _ HN.out hn60 HS.out (HR.out _ g)).mono ?_
        rintro e D6 ⟨rfl, g6⟩
        have g := g.trans (g6.mono g.size)
        clear g6
        go_wp2_with fail
        go_ret
        exact ⟨by rw [HO.out, HF.out]; rfl, g⟩
    · have hd : (t == 0) = false := by simpa using h0
      cases x5
      · have HF : Hid (mbF rs ⟨x0, ⟨bt, bk, bv, bs⟩, false, ⟨at', ak, av, sa⟩⟩ = 0) := by show _ = _; unfold mbF; rw [if_neg (by rw [HT.out]; exact h0)]; rfl
        go_wp2_with fail
        go_ret
        exact ⟨by rw [HO.out, HF.out]; rfl, g⟩
      · have HF : Hid (mbF rs ⟨x0, ⟨bt, bk, bv, bs⟩, true, ⟨at', ak, av, sa⟩⟩ = entQ rs ⟨at', ak, av, sa⟩) := by show _ = _; unfold mbF; rw [if_neg (by rw [HT.out]; exact h0)]; rfl
        go_wp2_with fail
        refine (entryFault_any a rs n c at' ak av sa _ HN.out hn60 ha (HR.out _ g) (HE.out _ g)).mono ?_
        rintro e D6 ⟨rfl, g6⟩
        have g := g.trans (g6.mono g.size)
        clear g6
        go_wp2_with fail
        go_ret
        exact ⟨by rw [HO.out, HF.out]; rfl, g⟩
  · have d : (q != 0) = true := by simpa using hq0
    have HO : Hid (mbQ rs ⟨x0, ⟨bt, bk, bv, bs⟩, x5, ⟨at', ak, av, sa⟩⟩ = q) := by show _ = _; rw [HO.out, if_neg hq0]
    go_wp2_with fail
    go_ret
    exact ⟨by rw [HO.out]; rfl, g⟩

end Go.Proofs.YtpjlpnaamkbicaaGreatDoor
