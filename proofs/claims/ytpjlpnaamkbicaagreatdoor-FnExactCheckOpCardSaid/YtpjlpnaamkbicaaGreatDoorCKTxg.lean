/-
  A transaction alone: its code, both sides.
-/
import Derived.Test.YtpjlpnaamkbicaaGreatDoorCKTxf
import Derived.Test.YtpjlpnaamkbicaaGreatDoorCKChw

namespace Go.Proofs.YtpjlpnaamkbicaaGreatDoor
open Go.RowKit Go.Maps
set_option linter.unusedVariables false
set_option maxRecDepth 20000

def manyB (x : TxV) : Bool := decide (8 < x.m.length) || decide (12 < x.l.length)
def mlQ (x : TxV) : Int := if manyB x = true then 2 else orI (mksQ x.u.length x.m) (lksQ x.l)
def alnQ (x : TxV) : Int := if fstQ (unQ x.l) x.u = 0 then mlQ x else fstQ (unQ x.l) x.u

/-- What a region of a boxed transaction keeps. -/
structure TaS (D : World) (tb : Nat) (id : Int) (ua : Option Addr) (un uc : Nat) (ma : Option Addr) (mn mc : Nat) (la : Option Addr) (ln lc : Nat) (V : World) : Prop where
  t : T4 V tb id ua un uc ma mn mc la ln lc
  g : Below D.heap.size D V
theorem TaS.up {D : World} {tb : Nat} {id : Int} {ua ma la : Option Addr} {un uc mn mc ln lc : Nat} {V V' : World} (h : TaS D tb id ua un uc ma mn mc la ln lc V) (hb : Below V.heap.size V V') : TaS D tb id ua un uc ma mn mc la ln lc V' :=
  ⟨h.t.below hb h.t.lt, h.g.trans (hb.mono h.g.size)⟩

set_option maxHeartbeats 8000000 in
theorem aloneTxFault_any (id : Int) (ua : Option Addr) (us : List Chg) (un uc : Nat) (ma : Option Addr) (ms : List Int) (mn mc : Nat) (la : Option Addr) (ls : List K2) (ln lc : Nat) (w : World) (hu : us.length = un) (hum : un ≤ 1048576) (hus : ∀ x ∈ us, x.b.s.size ≤ maxLen ∧ x.a.s.size ≤ maxLen) (ru : Rs chE 10 w ua us) (hm : ms.length = mn) (hmm : mn ≤ 1048576) (rm : Rs inE 1 w ma ms) (hl : ls.length = ln) (hlm : ln ≤ 1048576) (hlc : ln ≤ lc) (rl : Rs kyE 2 w la ls) :
    Calls Tryz.prog 55 #[.agg #[.int .i64 id, .slice ua un uc, .slice ma mn mc, .slice la ln lc]] w fun e w' => e = .returned (.int .i64 (alnQ ⟨id, us, ms, ls⟩)) ∧ Below w.heap.size w w' := by
  have HUn : Hid (∀ V, Below w.heap.size w V → Calls Tryz.prog 86 #[.agg #[.int .i64 id, .slice ua un uc, .slice ma mn mc, .slice la ln lc]] V fun e w' => e = .returned (.int .i64 (fstQ (unQ ls) us)) ∧ Below V.heap.size V w') := fun V hV => undoFault_any id ua us un uc ma mn mc la ls ln lc V hu (by omega) hus (ru.below hV (Nat.le_refl _)) hl (by omega) (rl.below hV (Nat.le_refl _))
  have HMk : Hid (∀ V, Below w.heap.size w V → Calls Tryz.prog 87 #[.agg #[.int .i64 id, .slice ua un uc, .slice ma mn mc, .slice la ln lc]] V fun e w' => e = .returned (.int .i64 (mksQ un ms)) ∧ Below V.heap.size V w') := fun V hV => marksFault_any id ua un uc ma ms mn mc la ln lc V hum hm (by omega) (rm.below hV (Nat.le_refl _))
  have HLk : Hid (∀ V, Below w.heap.size w V → Calls Tryz.prog 88 #[.slice la ln lc] V fun e w' => e = .returned (.int .i64 (lksQ ls)) ∧ Below V.heap.size V w') := fun V hV => locksFault_any la ls ln lc V hl hlm hlc (rl.below hV (Nat.le_refl _))
  obtain ⟨Q, hQ⟩ : ∃ Q, alnQ ⟨id, us, ms, ls⟩ = Q := ⟨_, rfl⟩
  have HQ : Hid ((if fstQ (unQ ls) us = 0 then (if (decide (8 < mn) || decide (12 < ln)) = true then 2 else orI (mksQ un ms) (lksQ ls)) else fstQ (unQ ls) us) = Q) := by
    show _ = _
    rw [← hQ]
    unfold alnQ mlQ manyB
    dsimp only
    rw [hm, hl, hu]
  rw [hQ]
  clear hQ hu hus ru hm rm hl rl
  generalize fstQ (unQ ls) us = q0 at HUn HQ
  generalize mksQ un ms = q1 at HMk HQ
  generalize lksQ ls = q2 at HLk HQ
  go_enter Tryz.func55, Tryz.ntmps55
  go_upto_region 1 with (fail)
  generalize hY : World.alloc _ _ = Y
  have gY : Below w.heap.size w Y := by rw [← hY]; go_grown
  have hc : T4 Y w.heap.size id ua un uc ma mn mc la ln lc := by rw [← hY]; exact ⟨by simp [go_sem], by simp [go_sem], by simp [go_sem], by simp [go_sem]⟩
  clear hY
  obtain ⟨tb, htb⟩ : ∃ tb, w.heap.size = tb := ⟨_, rfl⟩
  rw [htb] at hc
  simp only [htb]
  have HTB : Hid (w.heap.size = tb) := htb
  clear htb
  have HT : Hid (∀ V, Below Y.heap.size Y V → T4 V tb id ua un uc ma mn mc la ln lc) := fun V hV => hc.below hV hc.lt
  obtain ⟨y0, y1, y2, y3⟩ := hc
  go_wp2_with fail
  refine (HUn.out Y gY).mono ?_
  rintro e w1 ⟨rfl, g1⟩
  clear y0 y1 y2 y3 HUn
  by_cases h0 : q0 = 0
  · subst h0
    have HQ : Hid ((if (decide (8 < mn) || decide (12 < ln)) = true then 2 else orI q1 q2) = Q) := by
      have h := HQ.out
      show _ = _
      simpa using h
    obtain ⟨y0, y1, y2, y3⟩ := HT.out w1 g1
    by_cases h8 : 8 < mn
    · have d8 : (8 : Int) < (mn : Int) := by omega
      have HX : Hid (Q = 2) := by show _ = _; rw [← HQ.out]; simp [h8]
      clear HQ
      go_wp2_with fail
      go_ret
      exact ⟨by rw [HX.out]; rfl, gY.trans (g1.mono gY.size)⟩
    have d8 : ¬ (8 : Int) < (mn : Int) := by omega
    by_cases h12 : 12 < ln
    · have d12 : (12 : Int) < (ln : Int) := by omega
      have HX : Hid (Q = 2) := by show _ = _; rw [← HQ.out]; simp [h12]
      clear HQ
      go_wp2_with fail
      go_ret
      exact ⟨by rw [HX.out]; rfl, gY.trans (g1.mono gY.size)⟩
    have d12 : ¬ (12 : Int) < (ln : Int) := by omega
    have HX : Hid (orI q1 q2 = Q) := by show _ = _; rw [← HQ.out]; simp [h8, h12]
    clear HQ
    go_upto_region 6 with (fail)
    clear y0 y1 y2 y3
    have gw1 := gY.trans (g1.mono gY.size)
    have H : TaS w1 tb id ua un uc ma mn mc la ln lc w1.drew := ⟨HT.out _ (g1.trans ((Below.refl _ w1).drew.mono g1.size)), (Below.refl _ w1).drew⟩
    refine wp_region_held_drew (S := TaS w1 tb id ua un uc ma mn mc la ln lc) (by kernel_rfl) H (fun hHeld => ?_)
    generalize w1.drew = D0 at hHeld ⊢
    clear H
    refine wpAnyH_take (i := 0) (v := ?v1) rfl (by kernel_rfl) (by kernel_rfl) (by kernel_rfl) (fun _ _ _ h => h) (Or.inl ⟨by kernel_rfl, ?h1⟩) hHeld ?_
    case h1 => intro u hSw; (obtain ⟨y0, y1, y2, y3⟩ := hSw.t); clear hSw; go_simp; try with_reducible rfl
    try simp only [List.getElem_toArray]
    try simp only [List.getElem_cons_succ]
    try simp only [List.getElem_cons_zero]
    try simp only [Act.put]
    try simp only [List.setIfInBounds_toArray]
    try simp only [List.set]
    refine wpAnyH_take (i := 2) (v := ?v2) rfl (by kernel_rfl) (by kernel_rfl) (by kernel_rfl) (fun _ _ _ h => h) (Or.inl ⟨by kernel_rfl, ?h2⟩) hHeld ?_
    case h2 => intro u hSw; clear hSw; go_simp; try with_reducible rfl
    try simp only [List.getElem_toArray]
    try simp only [List.getElem_cons_succ]
    try simp only [List.getElem_cons_zero]
    try simp only [Act.put]
    try simp only [List.setIfInBounds_toArray]
    try simp only [List.set]
    refine wpAnyH_take (i := 3) (v := ?v3) rfl (by kernel_rfl) (by kernel_rfl) (by kernel_rfl) (fun _ _ _ h => h) (Or.inl ⟨by kernel_rfl, ?h3⟩) hHeld ?_
    case h3 => intro u hSw; (obtain ⟨y0, y1, y2, y3⟩ := hSw.t); clear hSw; go_simp; try with_reducible rfl
    try simp only [List.getElem_toArray]
    try simp only [List.getElem_cons_succ]
    try simp only [List.getElem_cons_zero]
    try simp only [Act.put]
    try simp only [List.setIfInBounds_toArray]
    try simp only [List.set]
    refine wpAnyH_ready (rs := [1]) (by kernel_rfl) (by simp) ?_
    refine AllReadyH.cons rfl (fun K hK => ?_) AllReadyH.nil
    go_simp
    go_wp2_with (go_at_call 87; refine (HMk.out _ (gw1.trans (hHeld.g.mono gw1.size))).mono ?_; rintro e U1 ⟨rfl, gg⟩)
    refine hK.out _ _ (hHeld.up gg) (fun hHeld => ?_)
    clear hK K
    clear gg
    try simp only [Act.put]
    try simp only [List.setIfInBounds_toArray]
    try simp only [List.set]
    refine wpAnyH_ready (rs := [4]) (by kernel_rfl) (by simp) ?_
    refine AllReadyH.cons rfl (fun K hK => ?_) AllReadyH.nil
    go_simp
    go_wp2_with (go_at_call 88; refine (HLk.out _ (gw1.trans (hHeld.g.mono gw1.size))).mono ?_; rintro e U2 ⟨rfl, gg⟩)
    refine hK.out _ _ (hHeld.up gg) (fun hHeld => ?_)
    clear hK K
    clear gg
    try simp only [Act.put]
    try simp only [List.setIfInBounds_toArray]
    try simp only [List.set]
    refine wpAnyH_ready (rs := [5]) (by kernel_rfl) (by simp) ?_
    refine AllReadyH.cons rfl (fun K hK => ?_) AllReadyH.nil
    have gg : Below U2.heap.size U2 (U2.alloc (.cells #[.int .i64 q1, .int .i64 q2] 2)) := by go_grown
    have k0 : (U2.alloc (.cells #[.int .i64 q1, .int .i64 q2] 2)).cell? ⟨U2.heap.size, 0, none⟩ = some (.int .i64 q1) := by simp [go_sem]
    have k1 : (U2.alloc (.cells #[.int .i64 q1, .int .i64 q2] 2)).cell? ⟨U2.heap.size, 1, none⟩ = some (.int .i64 q2) := by simp [go_sem]
    go_simp
    refine hK.out _ _ (hHeld.up gg) (fun hHeld => ?_)
    clear hK K gg
    generalize U2.alloc (.cells #[.int .i64 q1, .int .i64 q2] 2) = U3 at hHeld k0 k1 ⊢
    generalize U2.heap.size = ob at k0 k1 ⊢
    try simp only [Act.put]
    try simp only [List.setIfInBounds_toArray]
    try simp only [List.set]
    refine wpAnyH_ready (rs := [6]) (by kernel_rfl) (by simp) ?_
    refine AllReadyH.cons rfl (fun K hK => ?_) AllReadyH.nil
    go_simp
    go_wp2_with (go_at_call 24; refine (or64_any ob q1 q2 _ k0 k1).mono ?_; rintro e U4 ⟨rfl, hU⟩; subst U4)
    refine hK.out _ _ (hHeld) (fun hHeld => ?_)
    clear hK K
    clear k0 k1
    try simp only [Act.put]
    try simp only [List.setIfInBounds_toArray]
    try simp only [List.set]
    refine wpAnyH_take (i := 7) (v := ?v4) rfl (by kernel_rfl) (by kernel_rfl) (by kernel_rfl) (fun _ _ _ h => h) (Or.inl ⟨by kernel_rfl, ?h4⟩) hHeld ?_
    case h4 => intro u hSw; clear hSw; go_simp; try with_reducible rfl
    try simp only [List.getElem_toArray]
    try simp only [List.getElem_cons_succ]
    try simp only [List.getElem_cons_zero]
    try simp only [Act.put]
    try simp only [List.setIfInBounds_toArray]
    try simp only [List.set]
    refine wpAnyH_done (by kernel_rfl) ?_ _
    have g := gw1.trans (hHeld.g.mono gw1.size)
    clear hHeld
    rw [HX.out]
    go_wp2_with fail
    go_ret
    exact ⟨rfl, g⟩
  · have d0 : (q0 != 0) = true := by simpa using h0
    have HX : Hid (Q = q0) := by show _ = _; rw [← HQ.out, if_neg h0]
    clear HQ h0
    go_wp2_with fail
    go_ret
    exact ⟨by rw [HX.out]; rfl, gY.trans (g1.mono gY.size)⟩

end Go.Proofs.YtpjlpnaamkbicaaGreatDoor
