/-
  Whether rows rise: both RowsFault.
-/
import Derived.Test.YtmbllmhpnopbdaaFFRwt

namespace Go.Proofs.Ytmbllmhpnopbdaa
open Go.RowKit
set_option linter.unusedVariables false

def rwF (r : Rw) : Int := faultI r.t r.k r.v r.s
def rwB (a b : Rw) : Bool := befB a.t a.k b.t b.k
/-- The code of rows, the one ahead of them (where there is one) told. -/
def rsF : Option Rw → List Rw → Int
  | _, [] => 0
  | p, r :: l => if rwF r = 0 then (if (match p with | none => true | some q => rwB q r) = true then rsF (some r) l else 1) else rwF r
def rowsQ (l : List Rw) : Int := if 60 < l.length then 2 else rsF none l
/-- The one ahead of place j. -/
def ahd (rs : List Rw) : Nat → Option Rw
  | 0 => none
  | j + 1 => rs[j]?

theorem drop_at {rs : List Rw} {j : Nat} {r : Rw} (h : rs[j]? = some r) : rs.drop j = r :: rs.drop (j + 1) := by
  obtain ⟨hl, e⟩ := List.getElem?_eq_some_iff.1 h
  rw [← e]; exact List.drop_eq_getElem_cons hl

/-- The two rows that are held against each other. -/
structure TwoR (w : World) (bp op bc oc : Nat) (p c : Rw) (W : World) : Prop where
  p : RowC W bp op p
  c : RowC W bc oc c
  g : Below w.heap.size w W
  hp : bp < W.heap.size
  hc : bc < W.heap.size
theorem TwoR.up {w W V : World} {bp op bc oc : Nat} {p c : Rw} (h : TwoR w bp op bc oc p c W) (hb : Below W.heap.size W V) : TwoR w bp op bc oc p c V :=
  ⟨h.p.below hb h.hp, h.c.below hb h.hc, h.g.trans (hb.mono h.g.size), Nat.lt_of_lt_of_le h.hp hb.size, Nat.lt_of_lt_of_le h.hc hb.size⟩

set_option maxHeartbeats 1000000 in
theorem implRowsFault_any (a : Option Addr) (rs : List Rw) (n c : Nat) (w : World) (hn : rs.length = n) (hm : n ≤ 9223372036854775807) (hs : ∀ r ∈ rs, r.s.size ≤ maxLen) (hr : Rs rwE 4 w a rs) :
    Calls Try.prog 28 #[.slice a n c] w fun e w' => e = .returned (.int .i64 (rowsQ rs)) ∧ Below w.heap.size w w' := by
  by_cases h60 : (60 : Int) < n
  · have HQ : Hid (rowsQ rs = 2) := by show _ = _; unfold rowsQ; rw [if_pos (by omega)]
    go_enter Try.func28, Try.ntmps28
    go_wp2_with fail
    go_ret
    exact ⟨by rw [HQ.out]; rfl, Below.refl _ _⟩
  have HQ : Hid (rowsQ rs = rsF none rs) := by show _ = _; unfold rowsQ; rw [if_neg (by omega)]
  have HN : Hid (rs.length = n) := hn
  have HR : Hid (Rs rwE 4 w a rs) := hr
  have HS : Hid (∀ r ∈ rs, r.s.size ≤ maxLen) := hs
  have d60 : decide ((60 : Int) < n) = false := by simpa using h60
  have hn60 : n ≤ 60 := by omega
  clear hn hr hs h60
  go_enter Try.func28, Try.ntmps28
  go_wp2_with fail
  go_loopw [11] (fun i wr => ∃ j : Nat, j ≤ n ∧ i = .int .i64 j ∧ Hid (rsF none rs = rsF (ahd rs j) (rs.drop j)) ∧ Below w.heap.size w wr) (fun i _ => n - (intOf i).toNat)
  case atStart => exact ⟨0, Nat.zero_le _, rfl, rfl, Below.refl _ _⟩
  case round =>
    obtain ⟨j, hj, rfl, hq, g⟩ := hrel
    by_cases hlt : j < n
    · obtain ⟨r, hr⟩ := at_lt (rs := rs) (i := j) (by rw [HN.out]; exact hlt)
      obtain ⟨b, off, rfl, E⟩ := HR.out.row hr
      have hb0 : b < w.heap.size := World.block_lt_of_cell? w _ E.c0
      obtain ⟨e0, e1, e2, e3⟩ := E.below g hb0
      have hsz := HS.out r (List.mem_of_getElem? hr)
      have hjn : (j : Int) < (n : Int) := by omega
      have HK : Hid (rs[j]? = some r) := hr
      have hq1 : Hid (rsF none rs = if rwF r = 0 then (if (match ahd rs j with | none => true | some q => rwB q r) = true then rsF (some r) (rs.drop (j + 1)) else 1) else rwF r) := by
        show _ = _
        rw [hq.out, drop_at hr]; rfl
      clear hr hq
      obtain ⟨rt, rk, rv, rs'⟩ := r
      dsimp only at e0 e1 e2 e3 hsz
      go_upto_region 6 with (fail)
      generalize hY : World.alloc _ _ = Y
      have hgs := g.size
      have gY : Below w.heap.size w Y := by rw [← hY]; go_grown
      have hYs : Y.heap.size = wr.heap.size + 1 := by rw [← hY]; simp
      have C : RowC Y wr.heap.size 0 ⟨rt, rk, rv, rs'⟩ := by rw [← hY]; exact ⟨by simp [go_sem], by simp [go_sem], by simp [go_sem], by simp [go_sem]⟩
      clear hY e0 e1 e2 e3
      obtain ⟨x0, x1, x2, x3⟩ := C
      have C : RowC Y wr.heap.size 0 ⟨rt, rk, rv, rs'⟩ := ⟨x0, x1, x2, x3⟩
      dsimp only at x0 x1 x2 x3
      go_wp2_with fail
      refine (implRowFault_any rt rk rv rs' _ hsz).mono ?_
      rintro e w2 ⟨rfl, g2⟩
      have C := C.below g2 (by omega)
      have g3 : Below w.heap.size w w2 := gY.trans (g2.mono gY.size)
      have hs2 : wr.heap.size < w2.heap.size := by have := g2.size; omega
      clear g2 x0 x1 x2 x3 gY hYs
      obtain ⟨f, hf⟩ : ∃ f, f = faultI rt rk rv rs' := ⟨_, rfl⟩
      have HF : Hid (rwF ⟨rt, rk, rv, rs'⟩ = f) := hf.symm
      rw [← hf]
      clear hf
      by_cases hf0 : f = 0
      · subst hf0
        by_cases hj0 : j = 0
        · subst hj0
          have hq2 : Hid (rsF none rs = rsF (ahd rs (0 + 1)) (rs.drop (0 + 1))) := by
            show _ = _
            rw [hq1.out, if_pos HF.out]
            simp only [ahd, if_true]
            rw [HK.out]
          clear hq1
          go_upto_region 9 with (fail)
          refine wp_region_held_drew (S := fun V => True) (by kernel_rfl) trivial (fun hHeld => ?_)
          have g3 := g3.drew
          generalize w2.drew = D at g3 ⊢
          refine wpAnyH_take (i := 0) (v := ?v1) rfl (by kernel_rfl) (by kernel_rfl) (by kernel_rfl) (fun _ _ _ h => h) (Or.inl ⟨by kernel_rfl, ?h1⟩) hHeld ?_
          case h1 => intro u hSw; (try dsimp only at hSw); go_simp; try with_reducible rfl
          try simp only [List.getElem_toArray]
          try simp only [List.getElem_cons_succ]
          try simp only [List.getElem_cons_zero]
          try simp only [Act.put]
          try simp only [List.setIfInBounds_toArray]
          try simp only [List.set]
          refine wpAnyH_take (i := 1) (v := ?v2) rfl (by kernel_rfl) (by kernel_rfl) (by kernel_rfl) (fun _ _ _ h => h) (Or.inl ⟨by kernel_rfl, ?h2⟩) hHeld ?_
          case h2 => intro u hSw; (try dsimp only at hSw); go_simp; try with_reducible rfl
          try simp only [List.getElem_toArray]
          try simp only [List.getElem_cons_succ]
          try simp only [List.getElem_cons_zero]
          try simp only [Act.put]
          try simp only [List.setIfInBounds_toArray]
          try simp only [List.set]
          refine wpAnyH_take (i := 2) (v := ?v3) rfl (by kernel_rfl) (by kernel_rfl) (by kernel_rfl) (fun _ _ _ h => h) (Or.inl ⟨by kernel_rfl, ?h3⟩) hHeld ?_
          case h3 => intro u hSw; (try dsimp only at hSw); go_simp; try with_reducible rfl
          try simp only [List.getElem_toArray]
          try simp only [List.getElem_cons_succ]
          try simp only [List.getElem_cons_zero]
          try simp only [Act.put]
          try simp only [List.setIfInBounds_toArray]
          try simp only [List.set]
          refine wpAnyH_take (i := 3) (v := undef) rfl (by kernel_rfl) (by kernel_rfl) (by kernel_rfl) (fun _ _ _ h => h) (Or.inr ⟨by kernel_rfl, rfl⟩) hHeld ?_
          try simp only [List.getElem_toArray]
          try simp only [List.getElem_cons_succ]
          try simp only [List.getElem_cons_zero]
          try simp only [Act.put]
          try simp only [List.setIfInBounds_toArray]
          try simp only [List.set]
          refine wpAnyH_take (i := 4) (v := undef) rfl (by kernel_rfl) (by kernel_rfl) (by kernel_rfl) (fun _ _ _ h => h) (Or.inr ⟨by kernel_rfl, rfl⟩) hHeld ?_
          try simp only [List.getElem_toArray]
          try simp only [List.getElem_cons_succ]
          try simp only [List.getElem_cons_zero]
          try simp only [Act.put]
          try simp only [List.setIfInBounds_toArray]
          try simp only [List.set]
          refine wpAnyH_take (i := 8) (v := undef) rfl (by kernel_rfl) (by kernel_rfl) (by kernel_rfl) (fun _ _ _ h => h) (Or.inr ⟨by kernel_rfl, rfl⟩) hHeld ?_
          try simp only [List.getElem_toArray]
          try simp only [List.getElem_cons_succ]
          try simp only [List.getElem_cons_zero]
          try simp only [Act.put]
          try simp only [List.setIfInBounds_toArray]
          try simp only [List.set]
          refine wpAnyH_take (i := 5) (v := undef) rfl (by kernel_rfl) (by kernel_rfl) (by kernel_rfl) (fun _ _ _ h => h) (Or.inr ⟨by kernel_rfl, rfl⟩) hHeld ?_
          try simp only [List.getElem_toArray]
          try simp only [List.getElem_cons_succ]
          try simp only [List.getElem_cons_zero]
          try simp only [Act.put]
          try simp only [List.setIfInBounds_toArray]
          try simp only [List.set]
          refine wpAnyH_take (i := 6) (v := undef) rfl (by kernel_rfl) (by kernel_rfl) (by kernel_rfl) (fun _ _ _ h => h) (Or.inr ⟨by kernel_rfl, rfl⟩) hHeld ?_
          try simp only [List.getElem_toArray]
          try simp only [List.getElem_cons_succ]
          try simp only [List.getElem_cons_zero]
          try simp only [Act.put]
          try simp only [List.setIfInBounds_toArray]
          try simp only [List.set]
          refine wpAnyH_take (i := 7) (v := undef) rfl (by kernel_rfl) (by kernel_rfl) (by kernel_rfl) (fun _ _ _ h => h) (Or.inr ⟨by kernel_rfl, rfl⟩) hHeld ?_
          try simp only [List.getElem_toArray]
          try simp only [List.getElem_cons_succ]
          try simp only [List.getElem_cons_zero]
          try simp only [Act.put]
          try simp only [List.setIfInBounds_toArray]
          try simp only [List.set]
          refine wpAnyH_take (i := 9) (v := undef) rfl (by kernel_rfl) (by kernel_rfl) (by kernel_rfl) (fun _ _ _ h => h) (Or.inr ⟨by kernel_rfl, rfl⟩) hHeld ?_
          try simp only [List.getElem_toArray]
          try simp only [List.getElem_cons_succ]
          try simp only [List.getElem_cons_zero]
          try simp only [Act.put]
          try simp only [List.setIfInBounds_toArray]
          try simp only [List.set]
          refine wpAnyH_take (i := 10) (v := undef) rfl (by kernel_rfl) (by kernel_rfl) (by kernel_rfl) (fun _ _ _ h => h) (Or.inr ⟨by kernel_rfl, rfl⟩) hHeld ?_
          try simp only [List.getElem_toArray]
          try simp only [List.getElem_cons_succ]
          try simp only [List.getElem_cons_zero]
          try simp only [Act.put]
          try simp only [List.setIfInBounds_toArray]
          try simp only [List.set]
          refine wpAnyH_take (i := 11) (v := ?v4) rfl (by kernel_rfl) (by kernel_rfl) (by kernel_rfl) (fun _ _ _ h => h) (Or.inl ⟨by kernel_rfl, ?h4⟩) hHeld ?_
          case h4 => intro u hSw; (try dsimp only at hSw); go_simp; try with_reducible rfl
          try simp only [List.getElem_toArray]
          try simp only [List.getElem_cons_succ]
          try simp only [List.getElem_cons_zero]
          try simp only [Act.put]
          try simp only [List.setIfInBounds_toArray]
          try simp only [List.set]
          refine wpAnyH_done (by kernel_rfl) ?_ _
          clear hHeld
          go_wp2_with fail
          go_roundw
          case rel => exact ⟨0 + 1, by omega, by go_num, hq2, g3⟩
          case measure => simp [intOf]; omega
        · obtain ⟨k, rfl⟩ : ∃ k, j = k + 1 := ⟨j - 1, by omega⟩
          obtain ⟨p, hp⟩ := at_lt (rs := rs) (i := k) (by rw [HN.out]; omega)
          have P := (HR.out.rowAt hp).below g3 hb0
          have hq2 : Hid (rsF none rs = if rwB p ⟨rt, rk, rv, rs'⟩ = true then rsF (ahd rs (k + 1 + 1)) (rs.drop (k + 1 + 1)) else 1) := by
            show _ = _
            rw [hq1.out, if_pos HF.out]
            simp only [ahd, hp]
            rw [HK.out]
          clear hq1 hp
          obtain ⟨pt, pk, pv, ps⟩ := p
          have hT : TwoR w b (off + k * 4) wr.heap.size 0 ⟨pt, pk, pv, ps⟩ ⟨rt, rk, rv, rs'⟩ w2 := ⟨P, C, g3, Nat.lt_of_lt_of_le hb0 g3.size, hs2⟩
          clear P C g3
          have hkp : (0 : Int) < ((k + 1 : Nat) : Int) := by omega
          have hsub : ((k + 1 : Nat) : Int) - 1 = (k : Int) := by omega
          have hkn : (k : Int) < (n : Int) := by omega
          have dkp : decide ((0 : Int) < ((k + 1 : Nat) : Int)) = true := decide_eq_true hkp
          have hwr : IntKind.i64.wrap (k : Int) = (k : Int) := by simp [IntKind.wrap, IntKind.bits, IntKind.signed]; omega
          go_upto_region 9 with (fail)
          refine wp_region_held_drew (S := fun V => TwoR w b (off + k * 4) wr.heap.size 0 ⟨pt, pk, pv, ps⟩ ⟨rt, rk, rv, rs'⟩ V) (by kernel_rfl) (hT.up (Below.refl _ _).drew) (fun hHeld => ?_)
          generalize w2.drew = D at hHeld ⊢
          clear hT
          refine wpAnyH_take (i := 0) (v := ?v9) rfl (by kernel_rfl) (by kernel_rfl) (by kernel_rfl) (fun _ _ _ h => h) (Or.inl ⟨by kernel_rfl, ?h9⟩) hHeld ?_
          case h9 => intro u hSw; (try dsimp only at hSw); go_simp; try with_reducible rfl
          try simp only [List.getElem_toArray]
          try simp only [List.getElem_cons_succ]
          try simp only [List.getElem_cons_zero]
          try simp only [Act.put]
          try simp only [List.setIfInBounds_toArray]
          try simp only [List.set]
          refine wpAnyH_take (i := 1) (v := ?v10) rfl (by kernel_rfl) (by kernel_rfl) (by kernel_rfl) (fun _ _ _ h => h) (Or.inl ⟨by kernel_rfl, ?h10⟩) hHeld ?_
          case h10 => intro u hSw; (try dsimp only at hSw); go_simp; try with_reducible rfl
          try simp only [List.getElem_toArray]
          try simp only [List.getElem_cons_succ]
          try simp only [List.getElem_cons_zero]
          try simp only [Act.put]
          try simp only [List.setIfInBounds_toArray]
          try simp only [List.set]
          refine wpAnyH_take (i := 2) (v := ?v11) rfl (by kernel_rfl) (by kernel_rfl) (by kernel_rfl) (fun _ _ _ h => h) (Or.inl ⟨by kernel_rfl, ?h11⟩) hHeld ?_
          case h11 => intro u hSw; (try dsimp only at hSw); go_simp; try with_reducible rfl
          try simp only [List.getElem_toArray]
          try simp only [List.getElem_cons_succ]
          try simp only [List.getElem_cons_zero]
          try simp only [Act.put]
          try simp only [List.setIfInBounds_toArray]
          try simp only [List.set]
          refine wpAnyH_take (i := 3) (v := ?v12) rfl (by kernel_rfl) (by kernel_rfl) (by kernel_rfl) (fun _ _ _ h => h) (Or.inl ⟨by kernel_rfl, ?h12⟩) hHeld ?_
          case h12 => intro u hSw; (try dsimp only at hSw); go_simp; try with_reducible rfl
          try simp only [List.getElem_toArray]
          try simp only [List.getElem_cons_succ]
          try simp only [List.getElem_cons_zero]
          try simp only [Act.put]
          try simp only [List.setIfInBounds_toArray]
          try simp only [List.set]
          refine wpAnyH_take (i := 4) (v := ?v13) rfl (by kernel_rfl) (by kernel_rfl) (by kernel_rfl) (fun _ _ _ h => h) (Or.inl ⟨by kernel_rfl, ?h13⟩) hHeld ?_
          case h13 => intro u hSw; (try dsimp only at hSw); go_simp; try with_reducible rfl
          try simp only [List.getElem_toArray]
          try simp only [List.getElem_cons_succ]
          try simp only [List.getElem_cons_zero]
          try simp only [Act.put]
          try simp only [List.setIfInBounds_toArray]
          try simp only [List.set]
          refine wpAnyH_take (i := 8) (v := ?v14) rfl (by kernel_rfl) (by kernel_rfl) (by kernel_rfl) (fun _ _ _ h => h) (Or.inl ⟨by kernel_rfl, ?h14⟩) hHeld ?_
          case h14 => intro u hSw; obtain ⟨q0, q1, q2, q3⟩ := hSw.c; clear hSw; go_simp; try with_reducible rfl
          try simp only [List.getElem_toArray]
          try simp only [List.getElem_cons_succ]
          try simp only [List.getElem_cons_zero]
          try simp only [Act.put]
          try simp only [List.setIfInBounds_toArray]
          try simp only [List.set]
          refine wpAnyH_take (i := 5) (v := ?v15) rfl (by kernel_rfl) (by kernel_rfl) (by kernel_rfl) (fun _ _ _ h => h) (Or.inl ⟨by kernel_rfl, ?h15⟩) hHeld ?_
          case h15 => intro u hSw; (try dsimp only at hSw); go_simp; try with_reducible rfl
          try simp only [List.getElem_toArray]
          try simp only [List.getElem_cons_succ]
          try simp only [List.getElem_cons_zero]
          try simp only [Act.put]
          try simp only [List.setIfInBounds_toArray]
          try simp only [List.set]
          refine wpAnyH_take (i := 6) (v := ?v16) rfl (by kernel_rfl) (by kernel_rfl) (by kernel_rfl) (fun _ _ _ h => h) (Or.inl ⟨by kernel_rfl, ?h16⟩) hHeld ?_
          case h16 => intro u hSw; (try dsimp only at hSw); go_simp; try with_reducible rfl
          try simp only [List.getElem_toArray]
          try simp only [List.getElem_cons_succ]
          try simp only [List.getElem_cons_zero]
          try simp only [Act.put]
          try simp only [List.setIfInBounds_toArray]
          try simp only [List.set]
          refine wpAnyH_take (i := 7) (v := ?v17) rfl (by kernel_rfl) (by kernel_rfl) (by kernel_rfl) (fun _ _ _ h => h) (Or.inl ⟨by kernel_rfl, ?h17⟩) hHeld ?_
          case h17 => intro u hSw; obtain ⟨q0, q1, q2, q3⟩ := hSw.p; clear hSw; go_simp; try with_reducible rfl
          try simp only [List.getElem_toArray]
          try simp only [List.getElem_cons_succ]
          try simp only [List.getElem_cons_zero]
          try simp only [Act.put]
          try simp only [List.setIfInBounds_toArray]
          try simp only [List.set]
          refine wpAnyH_ready (rs := [9]) (by kernel_rfl) (by simp) ?_
          refine AllReadyH.cons rfl (fun K hK => ?_) AllReadyH.nil
          go_simp
          go_wp2_with (go_at_call 44; refine (implIsBefore_any _ _ _ _ _ _ _ _ _).mono ?_; rintro e w8 ⟨rfl, hb⟩)
          refine hK.out _ _ (hHeld.up hb) (fun hHeld => ?_)
          clear hK K
          clear hb
          try simp only [Act.put]
          try simp only [List.setIfInBounds_toArray]
          try simp only [List.set]
          refine wpAnyH_take (i := 10) (v := ?v18) rfl (by kernel_rfl) (by kernel_rfl) (by kernel_rfl) (fun _ _ _ h => h) (Or.inl ⟨by kernel_rfl, ?h18⟩) hHeld ?_
          case h18 => intro u hSw; (try dsimp only at hSw); go_simp; try with_reducible rfl
          try simp only [List.getElem_toArray]
          try simp only [List.getElem_cons_succ]
          try simp only [List.getElem_cons_zero]
          try simp only [Act.put]
          try simp only [List.setIfInBounds_toArray]
          try simp only [List.set]
          refine wpAnyH_take (i := 11) (v := ?v19) rfl (by kernel_rfl) (by kernel_rfl) (by kernel_rfl) (fun _ _ _ h => h) (Or.inl ⟨by kernel_rfl, ?h19⟩) hHeld ?_
          case h19 => intro u hSw; (try dsimp only at hSw); go_simp; try with_reducible rfl
          try simp only [List.getElem_toArray]
          try simp only [List.getElem_cons_succ]
          try simp only [List.getElem_cons_zero]
          try simp only [Act.put]
          try simp only [List.setIfInBounds_toArray]
          try simp only [List.set]
          refine wpAnyH_done (by kernel_rfl) ?_ _
          have g3 := hHeld.g
          clear hHeld
          obtain ⟨v, hv⟩ : ∃ v, v = befB pt pk rt rk := ⟨_, rfl⟩
          have hq3 : Hid (rsF none rs = if v = true then rsF (ahd rs (k + 1 + 1)) (rs.drop (k + 1 + 1)) else 1) := by show _ = _; rw [hv]; exact hq2.out
          rw [← hv]
          clear hv hq2
          cases v
          · go_wp2_with fail
            go_ret
            exact ⟨by rw [HQ.out, hq3.out]; rfl, g3⟩
          · go_wp2_with fail
            go_roundw
            case rel => exact ⟨k + 1 + 1, by omega, by go_num, hq3.out, g3⟩
            case measure => simp [intOf]; omega
      · have HQ2 : Hid (rowsQ rs = f) := by
          show _ = _
          rw [HQ.out, hq1.out, if_neg (by rw [HF.out]; exact hf0), HF.out]
        have df : (f != 0) = true := by simpa using hf0
        clear hq1
        go_wp2_with fail
        go_ret
        exact ⟨by rw [HQ2.out]; rfl, g3⟩
    · have e : j = n := by omega
      subst e
      have HQ2 : Hid (rowsQ rs = 0) := by
        show _ = _
        rw [HQ.out, hq.out, List.drop_of_length_le (by rw [HN.out]; exact Nat.le_refl _)]
        rfl
      clear hq
      go_wp2_with fail
      go_ret
      exact ⟨by rw [HQ2.out]; rfl, g⟩

end Go.Proofs.Ytmbllmhpnopbdaa
