/-
  Marks and locks of a transaction: their codes; the program's side.
-/
import Derived.Test.YtmboclfgldgefaaGreatCMTxe
import Derived.Test.YtmboclfgldgefaaGreatCMChw

namespace Go.Proofs.YtmboclfgldgefaaGreat
open Go.RowKit Go.Maps
set_option linter.unusedVariables false
set_option maxRecDepth 20000

theorem rng_all {f : Nat → Int} {n : Nat} (h : ∀ i, i < n → f i = 0) : fstQ f (List.range n) = 0 := fst_all fun y hy => h y (List.mem_range.1 hy)
theorem rng_at {f : Nat → Int} {n j : Nat} (h : ∀ i, i < j → f i = 0) (hj : j < n) (hq : f j ≠ 0) : fstQ f (List.range n) = f j :=
  fst_at (j := j) (fun y hy => by rw [List.take_range] at hy; exact h y (by have := List.mem_range.1 hy; omega)) (by rw [List.getElem?_range hj]) hq
/-- The mark ahead of the j-th; the code of a mark; of a lock. -/
def prvM (ms : List Int) (j : Nat) : Int := if j = 0 then 0 else ms.getD (j - 1) 0
def mrQ (n : Int) (ms : List Int) (j : Nat) : Int := if inW (ms.getD j 0) (prvM ms j) n = true then 0 else 3
def lkQ (ls : List K2) (j : Nat) : Int := if keyB (ls.getD j ⟨0, 0⟩) = true then (if hasK (ls.take j) (ls.getD j ⟨0, 0⟩) = true then 6 else 0) else 3
def mksQ (n : Int) (ms : List Int) : Int := fstQ (mrQ n ms) (List.range ms.length)
def lksQ (ls : List K2) : Int := fstQ (lkQ ls) (List.range ls.length)
theorem step_all {f : Nat → Int} {j : Nat} (h : ∀ i, i < j → f i = 0) (hj : f j = 0) : ∀ i, i < j + 1 → f i = 0 := fun i hi => by
  by_cases e : i = j
  · rw [e]; exact hj
  · exact h i (by omega)

set_option maxHeartbeats 4000000 in
theorem marksFault_any (id : Int) (ua : Option Addr) (un uc : Nat) (ma : Option Addr) (ms : List Int) (mn mc : Nat) (la : Option Addr) (ln lc : Nat) (w : World) (hun : un ≤ 1048576) (hm : ms.length = mn) (hmn : mn ≤ 9223372036854775807) (rm : Rs inE 1 w ma ms) :
    Calls Tryz.prog 75 #[.agg #[.int .i64 id, .slice ua un uc, .slice ma mn mc, .slice la ln lc]] w fun e w' => e = .returned (.int .i64 (mksQ un ms)) ∧ Below w.heap.size w w' := by
  have HN : Hid (ms.length = mn) := hm
  have HR : Hid (Rs inE 1 w ma ms) := rm
  obtain ⟨Q, hQ⟩ : ∃ Q, mksQ un ms = Q := ⟨_, rfl⟩
  have HQ : Hid (fstQ (mrQ un ms) (List.range ms.length) = Q) := hQ
  rw [hQ]
  clear hm rm hQ
  go_enter Tryz.func75, Tryz.ntmps75
  go_upto_region 1 with (fail)
  generalize hY : World.alloc _ _ = Y
  have gY : Below w.heap.size w Y := by rw [← hY]; go_grown
  have hc : T4 Y w.heap.size id ua un uc ma mn mc la ln lc := by rw [← hY]; exact ⟨by simp [go_sem], by simp [go_sem], by simp [go_sem], by simp [go_sem]⟩
  clear hY
  have HR : Hid (Rs inE 1 Y ma ms) := HR.out.below gY (Nat.le_refl _)
  obtain ⟨y0, y1, y2, y3⟩ := hc
  go_upto_region 3 with (fail)
  go_loopw [9, 3] (fun i p wr => ∃ j : Nat, j ≤ mn ∧ i = .int .i64 j ∧ p = .int .i64 (prvM ms j) ∧ Hid (∀ i, i < j → mrQ un ms i = 0) ∧ wr = Y) (fun i _ _ => mn - (intOf i).toNat)
  case atStart => exact ⟨0, Nat.zero_le _, rfl, rfl, fun i hi => absurd hi (Nat.not_lt_zero _), rfl⟩
  case round =>
    obtain ⟨j, hj, rfl, rfl, hA, rfl⟩ := hrel
    by_cases hlt : j < mn
    · have hjn : (j : Int) < (mn : Int) := by omega
      obtain ⟨x, hx⟩ : ∃ x, ms[j]? = some x := ⟨_, List.getElem?_eq_getElem (by rw [HN.out]; exact hlt)⟩
      obtain ⟨xb, xo, rfl, x0⟩ := HR.out.num hx
      have hgd : ms.getD j 0 = x := by rw [List.getD_eq_getElem?_getD, hx]; rfl
      have HP : Hid (x = prvM ms (j + 1)) := by show _ = _; unfold prvM; rw [if_neg (by omega), Nat.add_sub_cancel]; exact hgd.symm
      obtain ⟨f, hf⟩ : ∃ f, inW x (prvM ms j) un = f := ⟨_, rfl⟩
      have HU : Hid (mrQ un ms j = if f = true then 0 else 3) := by show _ = _; unfold mrQ; rw [hgd, hf]
      have hcon := fun W => isWithinW_any x (prvM ms j) un W
      rw [hf] at hcon
      have HAt : Hid (mrQ un ms j ≠ 0 → Q = mrQ un ms j) := fun h2 => by rw [← HQ.out]; exact rng_at hA.out (by rw [HN.out]; exact hlt) h2
      have HA2 : Hid (mrQ un ms j = 0 → ∀ i, i < j + 1 → mrQ un ms i = 0) := fun h0 => step_all hA.out h0
      clear hx hgd hf hA
      generalize prvM ms j = pv at hcon ⊢
      go_wp2_with fail
      refine (hcon _).mono ?_
      rintro e w1 ⟨rfl, hw⟩
      subst w1
      clear hcon
      cases f
      · have HX : Hid (Q = 3) := by
          have h := HU.out
          simp at h
          have h2 := HAt.out (by rw [h]; decide)
          rw [h] at h2
          exact h2
        clear HU HAt HA2
        go_wp2_with fail
        go_ret
        exact ⟨by rw [HX.out]; rfl, gY⟩
      · have HA3 : Hid (∀ i, i < j + 1 → mrQ un ms i = 0) := HA2.out (by rw [HU.out]; simp)
        clear HU HAt HA2
        go_wp2_with fail
        go_roundw
        case rel => exact ⟨j + 1, by omega, by go_num, by rw [← HP.out], HA3, trivial⟩
        case measure => simp [intOf]; omega
    · have e : j = mn := by omega
      subst e
      have HX : Hid (Q = 0) := by show _ = _; rw [← HQ.out, HN.out]; exact rng_all hA.out
      clear hA
      go_wp2_with fail
      go_ret
      exact ⟨by rw [HX.out]; rfl, gY⟩

set_option maxHeartbeats 8000000 in
theorem locksFault_any (la : Option Addr) (ls : List K2) (ln lc : Nat) (w : World) (hl : ls.length = ln) (hln : ln ≤ 1048576) (hlc : ln ≤ lc) (rl : Rs kyE 2 w la ls) :
    Calls Tryz.prog 76 #[.slice la ln lc] w fun e w' => e = .returned (.int .i64 (lksQ ls)) ∧ Below w.heap.size w w' := by
  have HN : Hid (ls.length = ln) := hl
  have HR : Hid (∀ V, Below w.heap.size w V → Rs kyE 2 V la ls) := fun V hV => rl.below hV (Nat.le_refl _)
  obtain ⟨Q, hQ⟩ : ∃ Q, lksQ ls = Q := ⟨_, rfl⟩
  have HQ : Hid (fstQ (lkQ ls) (List.range ls.length) = Q) := hQ
  rw [hQ]
  clear hl rl hQ
  go_enter Tryz.func76, Tryz.ntmps76
  go_upto_region 2 with (fail)
  go_loopw [7] (fun i wr => ∃ j : Nat, j ≤ ln ∧ i = .int .i64 j ∧ Hid (∀ i, i < j → lkQ ls i = 0) ∧ Below w.heap.size w wr) (fun i _ => ln - (intOf i).toNat)
  case atStart => exact ⟨0, Nat.zero_le _, rfl, fun i hi => absurd hi (Nat.not_lt_zero _), Below.refl _ _⟩
  case round =>
    obtain ⟨j, hj, rfl, hA, g⟩ := hrel
    by_cases hlt : j < ln
    · have hjn : (j : Int) < (ln : Int) := by omega
      obtain ⟨x, hx⟩ : ∃ x, ls[j]? = some x := ⟨_, List.getElem?_eq_getElem (by rw [HN.out]; exact hlt)⟩
      obtain ⟨xb, xo, rfl, x0, x1⟩ := (HR.out wr g).key hx
      have hgd : ls.getD j ⟨0, 0⟩ = x := by rw [List.getD_eq_getElem?_getD, hx]; rfl
      obtain ⟨k1, hk1⟩ : ∃ f, keyB x = f := ⟨_, rfl⟩
      obtain ⟨k2, hk2⟩ : ∃ f, hasK (ls.take j) x = f := ⟨_, rfl⟩
      have HU : Hid (lkQ ls j = if k1 = true then (if k2 = true then 6 else 0) else 3) := by show _ = _; unfold lkQ; rw [hgd, hk1, hk2]
      have HRt : Hid (∀ V, Below w.heap.size w V → Rs kyE 2 V (some ⟨xb, xo, none⟩) (ls.take j)) := fun V hV => by
        rcases HR.out V hV with h | ⟨b, off, ha, hc⟩
        · exact .inl (by rw [h]; simp)
        · refine .inr ⟨b, off, ha, fun i y hy => ?_⟩
          exact hc i y (by
            have h1 := (List.getElem?_eq_some_iff.1 hy).1
            rw [List.length_take] at h1
            rw [List.getElem?_take_of_lt (by omega)] at hy
            exact hy)
      have htl : (ls.take j).length = j := by rw [List.length_take, HN.out]; omega
      obtain ⟨p, q⟩ := x
      have hik := fun W => isKey_any p q W
      rw [hk1] at hik
      have HH : Hid (∀ V, Below w.heap.size w V → Calls Tryz.prog 79 #[.slice (some ⟨xb, xo, none⟩) j lc, .agg #[.int .i64 p, .int .i64 q]] V fun e w' => e = .returned (.bool k2) ∧ Below V.heap.size V w') := fun V hV => by
        have h := has_any (some ⟨xb, xo, none⟩) (ls.take j) j lc p q V htl (by omega) (HRt.out V hV)
        rw [hk2] at h
        exact h
      have HAt : Hid (lkQ ls j ≠ 0 → Q = lkQ ls j) := fun h2 => by rw [← HQ.out]; exact rng_at hA.out (by rw [HN.out]; exact hlt) h2
      have HA2 : Hid (lkQ ls j = 0 → ∀ i, i < j + 1 → lkQ ls i = 0) := fun h0 => step_all hA.out h0
      clear hx hgd hk1 hk2 hA HRt htl
      dsimp only at x0 x1
      go_upto_region 4 with (fail)
      generalize hY : World.alloc _ _ = Y7
      have g7 : Below wr.heap.size wr Y7 := by rw [← hY]; go_grown
      have z0 : Y7.cell? ⟨wr.heap.size, 0, none⟩ = some (.int .i64 p) := by rw [← hY]; simp [go_sem]
      have z1 : Y7.cell? ⟨wr.heap.size, 1, none⟩ = some (.int .i64 q) := by rw [← hY]; simp [go_sem]
      have g := g.trans (g7.mono g.size)
      clear hY x0 x1 g7
      generalize wr.heap.size = kb at z0 z1 ⊢
      have lz := World.block_lt_of_cell? Y7 _ z0
      go_wp2_with fail
      refine (hik _).mono ?_
      rintro e W1 ⟨rfl, g1⟩
      have z0 := (g1.cell (p := ⟨kb, 0, none⟩) lz).trans z0
      have z1 := (g1.cell (p := ⟨kb, 1, none⟩) lz).trans z1
      have g := g.trans (g1.mono g.size)
      clear g1 lz hik
      cases k1
      · have HX : Hid (Q = 3) := by
          have h := HU.out
          simp at h
          have h2 := HAt.out (by rw [h]; decide)
          rw [h] at h2
          exact h2
        clear HU HAt HA2 z0 z1 HH
        go_wp2_with fail
        go_ret
        exact ⟨by rw [HX.out]; rfl, g⟩
      have lz := World.block_lt_of_cell? W1 _ z0
      have hjc : (j : Int) ≤ (lc : Int) := by omega
      have hjl : j ≤ lc := by omega
      go_upto_region 6 with (fail)
      refine wp_region_held_drew (S := fun V => Below W1.heap.size W1 V) (by kernel_rfl) (Below.refl _ W1).drew (fun hHeld => ?_)
      generalize W1.drew = D0 at hHeld ⊢
      refine wpAnyH_take (i := 0) (v := ?v1) rfl (by kernel_rfl) (by kernel_rfl) (by kernel_rfl) (fun _ _ _ h => h) (Or.inl ⟨by kernel_rfl, ?h1⟩) hHeld ?_
      case h1 => intro u hSw; clear hSw; go_simp; try with_reducible rfl
      try simp only [List.getElem_toArray]
      try simp only [List.getElem_cons_succ]
      try simp only [List.getElem_cons_zero]
      try simp only [Act.put]
      try simp only [List.setIfInBounds_toArray]
      try simp only [List.set]
      refine wpAnyH_take (i := 1) (v := ?v2) rfl (by kernel_rfl) (by kernel_rfl) (by kernel_rfl) (fun _ _ _ h => h) (Or.inl ⟨by kernel_rfl, ?h2⟩) hHeld ?_
      case h2 => intro u hSw; clear hSw; go_simp; try with_reducible rfl
      try simp only [List.getElem_toArray]
      try simp only [List.getElem_cons_succ]
      try simp only [List.getElem_cons_zero]
      try simp only [Act.put]
      try simp only [List.setIfInBounds_toArray]
      try simp only [List.set]
      refine wpAnyH_take (i := 2) (v := ?v3) rfl (by kernel_rfl) (by kernel_rfl) (by kernel_rfl) (fun _ _ _ h => h) (Or.inl ⟨by kernel_rfl, ?h3⟩) hHeld ?_
      case h3 => intro u hSw; clear hSw; go_simp; try with_reducible rfl
      try simp only [List.getElem_toArray]
      try simp only [List.getElem_cons_succ]
      try simp only [List.getElem_cons_zero]
      try simp only [Act.put]
      try simp only [List.setIfInBounds_toArray]
      try simp only [List.set]
      refine wpAnyH_take (i := 3) (v := ?v4) rfl (by kernel_rfl) (by kernel_rfl) (by kernel_rfl) (fun _ _ _ h => h) (Or.inl ⟨by kernel_rfl, ?h4⟩) hHeld ?_
      case h4 => intro u hSw; (have z0 := (hSw.cell (p := ⟨kb, 0, none⟩) lz).trans z0); (have z1 := (hSw.cell (p := ⟨kb, 1, none⟩) lz).trans z1); clear hSw; go_simp; try with_reducible rfl
      try simp only [List.getElem_toArray]
      try simp only [List.getElem_cons_succ]
      try simp only [List.getElem_cons_zero]
      try simp only [Act.put]
      try simp only [List.setIfInBounds_toArray]
      try simp only [List.set]
      refine wpAnyH_ready (rs := [4]) (by kernel_rfl) (by simp) ?_
      refine AllReadyH.cons rfl (fun K hK => ?_) AllReadyH.nil
      go_simp
      go_wp2_with (go_at_call 79; refine (HH.out _ (g.trans (hHeld.mono g.size))).mono ?_; rintro e U1 ⟨rfl, gg⟩)
      refine hK.out _ _ (hHeld.trans (gg.mono hHeld.size)) (fun hHeld => ?_)
      clear hK K
      clear gg
      try simp only [Act.put]
      try simp only [List.setIfInBounds_toArray]
      try simp only [List.set]
      refine wpAnyH_done (by kernel_rfl) ?_ _
      have g := g.trans (hHeld.mono g.size)
      clear hHeld z0 z1 lz HH
      cases k2
      · have HA3 : Hid (∀ i, i < j + 1 → lkQ ls i = 0) := HA2.out (by rw [HU.out]; simp)
        clear HU HAt HA2
        go_wp2_with fail
        go_roundw
        case rel => exact ⟨j + 1, by omega, by go_num, HA3, g⟩
        case measure => simp [intOf]; omega
      · have HX : Hid (Q = 6) := by
          have h := HU.out
          simp at h
          have h2 := HAt.out (by rw [h]; decide)
          rw [h] at h2
          exact h2
        clear HU HAt HA2
        go_wp2_with fail
        go_ret
        exact ⟨by rw [HX.out]; rfl, g⟩
    · have e : j = ln := by omega
      subst e
      have HX : Hid (Q = 0) := by show _ = _; rw [← HQ.out, HN.out]; exact rng_all hA.out
      clear hA
      go_wp2_with fail
      go_ret
      exact ⟨by rw [HX.out]; rfl, g⟩

end Go.Proofs.YtmboclfgldgefaaGreat

/-
  A transaction alone: its code, both sides.
-/
namespace Go.Proofs.YtmboclfgldgefaaGreat
open Go.RowKit Go.Maps
set_option linter.unusedVariables false
set_option maxRecDepth 20000

def manyB (x : TxV) : Bool := decide (8 < x.m.length) || decide (12 < x.l.length)
def mlQ (x : TxV) : Int := if manyB x = true then 2 else orI (mksQ x.u.length x.m) (lksQ x.l)
def alnQ (x : TxV) : Int := if fstQ (unQ x.l) x.u = 0 then mlQ x else fstQ (unQ x.l) x.u

/-- What a region of a boxed transaction keeps. -/
structure TaS (D : World) (tb : Nat) (id : Int) (ua : Option Addr) (un uc : Nat) (ma : Option Addr) (mn mc : Nat) (la : Option Addr) (ln lc : Nat) (V : World) : Prop where
  t : T4 V tb id ua un uc ma mn mc la ln lc
  g : Below D.heap.size D V
theorem TaS.up {D : World} {tb : Nat} {id : Int} {ua ma la : Option Addr} {un uc mn mc ln lc : Nat} {V V' : World} (h : TaS D tb id ua un uc ma mn mc la ln lc V) (hb : Below V.heap.size V V') : TaS D tb id ua un uc ma mn mc la ln lc V' :=
  ⟨h.t.below hb h.t.lt, h.g.trans (hb.mono h.g.size)⟩

set_option maxHeartbeats 8000000 in
theorem aloneTxFault_any (id : Int) (ua : Option Addr) (us : List Chg) (un uc : Nat) (ma : Option Addr) (ms : List Int) (mn mc : Nat) (la : Option Addr) (ls : List K2) (ln lc : Nat) (w : World) (hu : us.length = un) (hum : un ≤ 1048576) (hus : ∀ x ∈ us, x.b.s.size ≤ maxLen ∧ x.a.s.size ≤ maxLen) (ru : Rs chE 10 w ua us) (hm : ms.length = mn) (hmm : mn ≤ 1048576) (rm : Rs inE 1 w ma ms) (hl : ls.length = ln) (hlm : ln ≤ 1048576) (hlc : ln ≤ lc) (rl : Rs kyE 2 w la ls) :
    Calls Tryz.prog 44 #[.agg #[.int .i64 id, .slice ua un uc, .slice ma mn mc, .slice la ln lc]] w fun e w' => e = .returned (.int .i64 (alnQ ⟨id, us, ms, ls⟩)) ∧ Below w.heap.size w w' := by
  have HUn : Hid (∀ V, Below w.heap.size w V → Calls Tryz.prog 74 #[.agg #[.int .i64 id, .slice ua un uc, .slice ma mn mc, .slice la ln lc]] V fun e w' => e = .returned (.int .i64 (fstQ (unQ ls) us)) ∧ Below V.heap.size V w') := fun V hV => undoFault_any id ua us un uc ma mn mc la ls ln lc V hu (by omega) hus (ru.below hV (Nat.le_refl _)) hl (by omega) (rl.below hV (Nat.le_refl _))
  have HMk : Hid (∀ V, Below w.heap.size w V → Calls Tryz.prog 75 #[.agg #[.int .i64 id, .slice ua un uc, .slice ma mn mc, .slice la ln lc]] V fun e w' => e = .returned (.int .i64 (mksQ un ms)) ∧ Below V.heap.size V w') := fun V hV => marksFault_any id ua un uc ma ms mn mc la ln lc V hum hm (by omega) (rm.below hV (Nat.le_refl _))
  have HLk : Hid (∀ V, Below w.heap.size w V → Calls Tryz.prog 76 #[.slice la ln lc] V fun e w' => e = .returned (.int .i64 (lksQ ls)) ∧ Below V.heap.size V w') := fun V hV => locksFault_any la ls ln lc V hl hlm hlc (rl.below hV (Nat.le_refl _))
  obtain ⟨Q, hQ⟩ : ∃ Q, alnQ ⟨id, us, ms, ls⟩ = Q := ⟨_, rfl⟩
  have HQ : Hid ((if fstQ (unQ ls) us = 0 then (if (decide (8 < mn) || decide (12 < ln)) = true then 2 else orI (mksQ un ms) (lksQ ls)) else fstQ (unQ ls) us) = Q) := by
    show _ = _
    rw [← hQ]
    unfold alnQ mlQ manyB
    dsimp only
    rw [hm, hl, hu]
  rw [hQ]
  clear hQ hu hus ru hm rm hl rl
  generalize fstQ (unQ ls) us = q0 at HUn HQ
  generalize mksQ un ms = q1 at HMk HQ
  generalize lksQ ls = q2 at HLk HQ
  go_enter Tryz.func44, Tryz.ntmps44
  go_upto_region 1 with (fail)
  generalize hY : World.alloc _ _ = Y
  have gY : Below w.heap.size w Y := by rw [← hY]; go_grown
  have hc : T4 Y w.heap.size id ua un uc ma mn mc la ln lc := by rw [← hY]; exact ⟨by simp [go_sem], by simp [go_sem], by simp [go_sem], by simp [go_sem]⟩
  clear hY
  obtain ⟨tb, htb⟩ : ∃ tb, w.heap.size = tb := ⟨_, rfl⟩
  rw [htb] at hc
  simp only [htb]
  have HTB : Hid (w.heap.size = tb) := htb
  clear htb
  have HT : Hid (∀ V, Below Y.heap.size Y V → T4 V tb id ua un uc ma mn mc la ln lc) := fun V hV => hc.below hV hc.lt
  obtain ⟨y0, y1, y2, y3⟩ := hc
  go_wp2_with fail
  refine (HUn.out Y gY).mono ?_
  rintro e w1 ⟨rfl, g1⟩
  clear y0 y1 y2 y3 HUn
  by_cases h0 : q0 = 0
  · subst h0
    have HQ : Hid ((if (decide (8 < mn) || decide (12 < ln)) = true then 2 else orI q1 q2) = Q) := by
      have h := HQ.out
      show _ = _
      simpa using h
    obtain ⟨y0, y1, y2, y3⟩ := HT.out w1 g1
    by_cases h8 : 8 < mn
    · have d8 : (8 : Int) < (mn : Int) := by omega
      have HX : Hid (Q = 2) := by show _ = _; rw [← HQ.out]; simp [h8]
      clear HQ
      go_wp2_with fail
      go_ret
      exact ⟨by rw [HX.out]; rfl, gY.trans (g1.mono gY.size)⟩
    have d8 : ¬ (8 : Int) < (mn : Int) := by omega
    by_cases h12 : 12 < ln
    · have d12 : (12 : Int) < (ln : Int) := by omega
      have HX : Hid (Q = 2) := by show _ = _; rw [← HQ.out]; simp [h12]
      clear HQ
      go_wp2_with fail
      go_ret
      exact ⟨by rw [HX.out]; rfl, gY.trans (g1.mono gY.size)⟩
    have d12 : ¬ (12 : Int) < (ln : Int) := by omega
    have HX : Hid (orI q1 q2 = Q) := by show _ = _; rw [← HQ.out]; simp [h8, h12]
    clear HQ
    go_upto_region 6 with (fail)
    clear y0 y1 y2 y3
    have gw1 := gY.trans (g1.mono gY.size)
    have H : TaS w1 tb id ua un uc ma mn mc la ln lc w1.drew := ⟨HT.out _ (g1.trans ((Below.refl _ w1).drew.mono g1.size)), (Below.refl _ w1).drew⟩
    refine wp_region_held_drew (S := TaS w1 tb id ua un uc ma mn mc la ln lc) (by kernel_rfl) H (fun hHeld => ?_)
    generalize w1.drew = D0 at hHeld ⊢
    clear H
    refine wpAnyH_take (i := 0) (v := ?v1) rfl (by kernel_rfl) (by kernel_rfl) (by kernel_rfl) (fun _ _ _ h => h) (Or.inl ⟨by kernel_rfl, ?h1⟩) hHeld ?_
    case h1 => intro u hSw; (obtain ⟨y0, y1, y2, y3⟩ := hSw.t); clear hSw; go_simp; try with_reducible rfl
    try simp only [List.getElem_toArray]
    try simp only [List.getElem_cons_succ]
    try simp only [List.getElem_cons_zero]
    try simp only [Act.put]
    try simp only [List.setIfInBounds_toArray]
    try simp only [List.set]
    refine wpAnyH_take (i := 2) (v := ?v2) rfl (by kernel_rfl) (by kernel_rfl) (by kernel_rfl) (fun _ _ _ h => h) (Or.inl ⟨by kernel_rfl, ?h2⟩) hHeld ?_
    case h2 => intro u hSw; clear hSw; go_simp; try with_reducible rfl
    try simp only [List.getElem_toArray]
    try simp only [List.getElem_cons_succ]
    try simp only [List.getElem_cons_zero]
    try simp only [Act.put]
    try simp only [List.setIfInBounds_toArray]
    try simp only [List.set]
    refine wpAnyH_take (i := 3) (v := ?v3) rfl (by kernel_rfl) (by kernel_rfl) (by kernel_rfl) (fun _ _ _ h => h) (Or.inl ⟨by kernel_rfl, ?h3⟩) hHeld ?_
    case h3 => intro u hSw; (obtain ⟨y0, y1, y2, y3⟩ := hSw.t); clear hSw; go_simp; try with_reducible rfl
    try simp only [List.getElem_toArray]
    try simp only [List.getElem_cons_succ]
    try simp only [List.getElem_cons_zero]
    try simp only [Act.put]
    try simp only [List.setIfInBounds_toArray]
    try simp only [List.set]
    refine wpAnyH_ready (rs := [1]) (by kernel_rfl) (by simp) ?_
    refine AllReadyH.cons rfl (fun K hK => ?_) AllReadyH.nil
    go_simp
    go_wp2_with (go_at_call 75; refine (HMk.out _ (gw1.trans (hHeld.g.mono gw1.size))).mono ?_; rintro e U1 ⟨rfl, gg⟩)
    refine hK.out _ _ (hHeld.up gg) (fun hHeld => ?_)
    clear hK K
    clear gg
    try simp only [Act.put]
    try simp only [List.setIfInBounds_toArray]
    try simp only [List.set]
    refine wpAnyH_ready (rs := [4]) (by kernel_rfl) (by simp) ?_
    refine AllReadyH.cons rfl (fun K hK => ?_) AllReadyH.nil
    go_simp
    go_wp2_with (go_at_call 76; refine (HLk.out _ (gw1.trans (hHeld.g.mono gw1.size))).mono ?_; rintro e U2 ⟨rfl, gg⟩)
    refine hK.out _ _ (hHeld.up gg) (fun hHeld => ?_)
    clear hK K
    clear gg
    try simp only [Act.put]
    try simp only [List.setIfInBounds_toArray]
    try simp only [List.set]
    refine wpAnyH_ready (rs := [5]) (by kernel_rfl) (by simp) ?_
    refine AllReadyH.cons rfl (fun K hK => ?_) AllReadyH.nil
    have gg : Below U2.heap.size U2 (U2.alloc (.cells #[.int .i64 q1, .int .i64 q2] 2)) := by go_grown
    have k0 : (U2.alloc (.cells #[.int .i64 q1, .int .i64 q2] 2)).cell? ⟨U2.heap.size, 0, none⟩ = some (.int .i64 q1) := by simp [go_sem]
    have k1 : (U2.alloc (.cells #[.int .i64 q1, .int .i64 q2] 2)).cell? ⟨U2.heap.size, 1, none⟩ = some (.int .i64 q2) := by simp [go_sem]
    go_simp
    refine hK.out _ _ (hHeld.up gg) (fun hHeld => ?_)
    clear hK K gg
    generalize U2.alloc (.cells #[.int .i64 q1, .int .i64 q2] 2) = U3 at hHeld k0 k1 ⊢
    generalize U2.heap.size = ob at k0 k1 ⊢
    try simp only [Act.put]
    try simp only [List.setIfInBounds_toArray]
    try simp only [List.set]
    refine wpAnyH_ready (rs := [6]) (by kernel_rfl) (by simp) ?_
    refine AllReadyH.cons rfl (fun K hK => ?_) AllReadyH.nil
    go_simp
    go_wp2_with (go_at_call 21; refine (or64_any ob q1 q2 _ k0 k1).mono ?_; rintro e U4 ⟨rfl, hU⟩; subst U4)
    refine hK.out _ _ (hHeld) (fun hHeld => ?_)
    clear hK K
    clear k0 k1
    try simp only [Act.put]
    try simp only [List.setIfInBounds_toArray]
    try simp only [List.set]
    refine wpAnyH_take (i := 7) (v := ?v4) rfl (by kernel_rfl) (by kernel_rfl) (by kernel_rfl) (fun _ _ _ h => h) (Or.inl ⟨by kernel_rfl, ?h4⟩) hHeld ?_
    case h4 => intro u hSw; clear hSw; go_simp; try with_reducible rfl
    try simp only [List.getElem_toArray]
    try simp only [List.getElem_cons_succ]
    try simp only [List.getElem_cons_zero]
    try simp only [Act.put]
    try simp only [List.setIfInBounds_toArray]
    try simp only [List.set]
    refine wpAnyH_done (by kernel_rfl) ?_ _
    have g := gw1.trans (hHeld.g.mono gw1.size)
    clear hHeld
    rw [HX.out]
    go_wp2_with fail
    go_ret
    exact ⟨rfl, g⟩
  · have d0 : (q0 != 0) = true := by simpa using h0
    have HX : Hid (Q = q0) := by show _ = _; rw [← HQ.out, if_neg h0]
    clear HQ h0
    go_wp2_with fail
    go_ret
    exact ⟨by rw [HX.out]; rfl, gY.trans (g1.mono gY.size)⟩

end Go.Proofs.YtmboclfgldgefaaGreat
