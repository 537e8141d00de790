/-
  The program's rowsByKey; the model's l6At.
-/
import Derived.Test.YtmbllmhpnopbdaaFFChw
import Derived.Test.YtmbllmhpnopbdaaFFMks
import Derived.Test.YtmbllmhpnopbdaaFFHlp

namespace Go.Proofs.Ytmbllmhpnopbdaa
open Go.RowKit Go.Maps
set_option linter.unusedVariables false

def rwK (r : Rw) : (Int × Int) × Value := ((r.t, r.k), rwA r)
theorem RowC.turn {w w' : World} {b o : Nat} {r : Rw} (h : RowC w b o r) {mb : Nat} (ht : w.mapTurned w' mb) (hne : b ≠ mb) : RowC w' b o r :=
  ⟨cell_turn ht h.c0, cell_turn ht h.c1, cell_turn ht h.c2, cell_turn ht h.c3⟩

set_option maxRecDepth 20000 in
set_option maxHeartbeats 4000000 in
theorem rowsByKey_any (a : Option Addr) (rs : List Rw) (n c : Nat) (w : World) (hn : rs.length = n) (hm : n ≤ 100000) (hk : ∀ r ∈ rs, Kw r.t r.k) (hr : Rs rwE 4 w a rs) :
    Calls Try.prog 29 #[.slice a n c] w fun e w' => ∃ b sz, e = .returned (.map (some b)) ∧ w.heap.size ≤ b ∧ Below w.heap.size w w' ∧ MapK 65 w' b (rs.map rwK) sz := by
  have hmm := @run_makeMap Try.prog
  have HN : Hid (rs.length = n) := hn
  have HK : Hid (∀ r ∈ rs, Kw r.t r.k) := hk
  have hk4 : MapK 65 (w.alloc (.map #[] 0)) w.heap.size [] 0 := ⟨MapF.made _ _, Nat.le_refl _, by simp⟩
  have gA : Below w.heap.size w (w.alloc (.map #[] 0)) := by go_grown
  have hr := hr.below gA (Nat.le_refl _)
  clear hn hk
  go_enter Try.func29, Try.ntmps29
  go_wp2_with fail
  generalize w.alloc (.map #[] 0) = X at hk4 gA hr ⊢
  obtain ⟨vb, hvb0⟩ : ∃ vb, vb = w.heap.size := ⟨_, rfl⟩
  have hvb : w.heap.size ≤ vb := by omega
  rw [← hvb0] at hk4
  have HVB : Hid (vb = w.heap.size) := hvb0
  rw [show w.heap.size = vb from hvb0.symm]
  clear hvb0
  go_loopw [9] (fun i wr => ∃ (j sz : Nat), j ≤ n ∧ i = .int .i64 j ∧ Below w.heap.size w wr ∧ Rs rwE 4 wr a rs ∧ MapK 65 wr vb ((rs.take j).map rwK) sz) (fun i _ => n - (intOf i).toNat)
  case atStart => exact ⟨0, 0, Nat.zero_le _, rfl, gA, hr, hk4⟩
  case round =>
    clear hr hk4 gA
    obtain ⟨j, sz, hj, rfl, g, hr, hK1⟩ := hrel
    by_cases hlt : j < n
    · obtain ⟨x, hx⟩ := at_lt (rs := rs) (i := j) (by rw [HN.out]; exact hlt)
      obtain ⟨b, off, rfl, X'⟩ := hr.row hx
      have hjn : (j : Int) < (n : Int) := by omega
      have HT : Hid ((rs.take (j + 1)).map rwK = (rs.take j).map rwK ++ [rwK x]) := by show _ = _; rw [take_snoc hx, List.map_append]; rfl
      have HL2 : Hid (((rs.take j).map rwK).length = j) := by show _ = _; rw [List.length_map, List.length_take, HN.out]; omega
      have hKw : Hid (Kw x.t x.k) := HK.out x (List.mem_of_getElem? hx)
      clear hx
      obtain ⟨xt, xk, xv, xs0⟩ := x
      dsimp only at hKw
      obtain ⟨x0, x1, x2, x3⟩ := X'
      dsimp only at x0 x1 x2 x3
      have hgs := g.size
      have hcb : wr.heap.size ≠ vb := by have := hK1.1.lt; omega
      go_upto_region 5 with (fail)
      generalize hY : World.alloc _ _ = Y
      have gY : Below wr.heap.size wr Y := by rw [← hY]; go_grown
      have C : RowC Y wr.heap.size 0 ⟨xt, xk, xv, xs0⟩ := by rw [← hY]; exact ⟨by simp [go_sem], by simp [go_sem], by simp [go_sem], by simp [go_sem]⟩
      have hK1 := hK1.below gY
      have hr := hr.below gY (Nat.le_refl _)
      have g := g.trans (gY.mono g.size)
      clear hY gY x0 x1 x2 x3
      generalize wr.heap.size = cb at C hcb ⊢
      refine wp_region_held_drew (S := fun V => RowC V cb 0 ⟨xt, xk, xv, xs0⟩ ∧ Below w.heap.size w V) (by kernel_rfl) ⟨C.below (Below.refl _ _).drew C.lt, g.drew⟩ (fun hHeld => ?_)
      have hK1 := hK1.below (Below.refl _ _).drew
      have hr := hr.below (Below.refl _ _).drew (Nat.le_refl _)
      generalize Y.drew = D at hHeld hK1 hr ⊢
      clear C g
      refine wpAnyH_take (i := 0) (v := ?v1) rfl (by kernel_rfl) (by kernel_rfl) (by kernel_rfl) (fun _ _ _ h => h) (Or.inl ⟨by kernel_rfl, ?h1⟩) hHeld ?_
      case h1 => intro u hSw; obtain ⟨q0, q1, q2, q3⟩ := hSw.1; dsimp only at q0 q1 q2 q3; clear hSw; go_simp; try with_reducible rfl
      try simp only [List.getElem_toArray]
      try simp only [List.getElem_cons_succ]
      try simp only [List.getElem_cons_zero]
      try simp only [Act.put]
      try simp only [List.setIfInBounds_toArray]
      try simp only [List.set]
      refine wpAnyH_take (i := 1) (v := ?v2) rfl (by kernel_rfl) (by kernel_rfl) (by kernel_rfl) (fun _ _ _ h => h) (Or.inl ⟨by kernel_rfl, ?h2⟩) hHeld ?_
      case h2 => intro u hSw; obtain ⟨q0, q1, q2, q3⟩ := hSw.1; dsimp only at q0 q1 q2 q3; clear hSw; go_simp; try with_reducible rfl
      try simp only [List.getElem_toArray]
      try simp only [List.getElem_cons_succ]
      try simp only [List.getElem_cons_zero]
      try simp only [Act.put]
      try simp only [List.setIfInBounds_toArray]
      try simp only [List.set]
      refine wpAnyH_take (i := 3) (v := ?v3) rfl (by kernel_rfl) (by kernel_rfl) (by kernel_rfl) (fun _ _ _ h => h) (Or.inl ⟨by kernel_rfl, ?h3⟩) hHeld ?_
      case h3 => intro u hSw; obtain ⟨q0, q1, q2, q3⟩ := hSw.1; dsimp only at q0 q1 q2 q3; clear hSw; go_simp; try with_reducible rfl
      try simp only [List.getElem_toArray]
      try simp only [List.getElem_cons_succ]
      try simp only [List.getElem_cons_zero]
      try simp only [Act.put]
      try simp only [List.setIfInBounds_toArray]
      try simp only [List.set]
      refine wpAnyH_ready (rs := [2]) (by kernel_rfl) (by simp) ?_
      refine AllReadyH.cons rfl (fun K hK => ?_) AllReadyH.nil
      go_simp
      go_wp2_with (go_at_call 45; refine (keyOf_any _ _ _ _ _).mono ?_; rintro e W3 ⟨rfl, gg⟩)
      refine hK.out _ _ (⟨hHeld.1.below gg hHeld.1.lt, hHeld.2.trans (gg.mono hHeld.2.size)⟩) (fun hHeld => ?_)
      clear hK K
      have hK1 := hK1.below gg
      have hr := hr.below gg (Nat.le_refl _)
      clear gg
      try simp only [Act.put]
      try simp only [List.setIfInBounds_toArray]
      try simp only [List.set]
      obtain ⟨W4, e4, m4, t4⟩ := hK1.1.store keyT73 Try.underlying59 hKw.out (.agg #[.int .i64 xt, .int .i64 xk, .int .i64 xv, .string xs0]) (by have := hK1.2.1; rw [HL2.out] at this; omega)
      simp only [kv] at e4
      have hK2 := hK1.add m4
      have hlt1 := hK1.1.lt
      have gT := turned_below t4 hvb hlt1
      refine wpAnyH_ready (rs := [4]) (by kernel_rfl) (by simp) ?_
      refine AllReadyH.cons rfl (fun K hK => ?_) AllReadyH.nil
      go_simp
      refine hK.out _ _ ⟨hHeld.1.turn t4 hcb, hHeld.2.trans gT⟩ (fun hHeld => ?_)
      clear hK K e4
      try simp only [Act.put]
      try simp only [List.setIfInBounds_toArray]
      try simp only [List.set]
      refine wpAnyH_done (by kernel_rfl) ?_ _
      have g2 := hHeld.2
      have hr2 := hr.turn t4
      have hK2 : MapK 65 W4 vb ((rs.take (j + 1)).map rwK) (nSz (kvF ((rs.take j).map rwK) xt xk) sz) := by rw [HT.out]; exact hK2
      clear hHeld
      go_wp2_with fail
      go_roundw
      case rel => exact ⟨j + 1, _, by omega, by go_num, g2, hr2, hK2⟩
      case measure => simp [intOf]; omega
    · have e : j = n := by omega
      subst e
      rw [List.take_of_length_le (by rw [HN.out]; exact Nat.le_refl _)] at hK1
      go_wp2_with fail
      go_ret
      exact ⟨vb, sz, rfl, hvb, g, hK1⟩

/-- Where the row of that key is; none: -1. -/
def AtP (rs : List Rw) (t k : Int) (r : Int) : Prop := (r = -1 ∧ ∀ x ∈ rs, ¬ (x.t = t ∧ x.k = k)) ∨ ∃ (i : Nat) (x : Rw), r = i ∧ rs[i]? = some x ∧ x.t = t ∧ x.k = k

set_option maxHeartbeats 1000000 in
theorem l6At_any (a : Option Addr) (rs : List Rw) (n c : Nat) (t k : Int) (w : World) (hn : rs.length = n) (hm : n ≤ 100000) (hr : Rs rwE 4 w a rs) :
    Calls Try.prog 33 #[.slice a n c, .int .i64 t, .int .i64 k] w fun e w' => ∃ r : Int, e = .returned (.int .i64 r) ∧ AtP rs t k r ∧ w' = w := by
  have HN : Hid (rs.length = n) := hn
  have HR : Hid (Rs rwE 4 w a rs) := hr
  clear hn hr
  go_enter Try.func33, Try.ntmps33
  go_wp2_with fail
  go_loopw [7] (fun i wr => ∃ j : Nat, j ≤ n ∧ i = .int .i64 j ∧ Hid (∀ x ∈ rs.take j, ¬ (x.t = t ∧ x.k = k)) ∧ wr = w) (fun i _ => n - (intOf i).toNat)
  case atStart => exact ⟨0, Nat.zero_le _, rfl, by intro x hx; simp at hx, rfl⟩
  case round =>
    obtain ⟨j, hj, rfl, hf, rfl⟩ := hrel
    by_cases hlt : j < n
    · obtain ⟨x, hx⟩ := at_lt (rs := rs) (i := j) (by rw [HN.out]; exact hlt)
      obtain ⟨b, off, rfl, X'⟩ := HR.out.row hx
      have hjn : (j : Int) < (n : Int) := by omega
      have HX : Hid (rs[j]? = some x) := hx
      have HF : Hid (¬ (x.t = t ∧ x.k = k) → ∀ y ∈ rs.take (j + 1), ¬ (y.t = t ∧ y.k = k)) := fun hne y hy => by
        rw [take_snoc hx] at hy
        rcases List.mem_append.1 hy with h | h
        · exact hf.out y h
        · simp at h; subst h; exact hne
      clear hx hf
      obtain ⟨xt, xk, xv, xs0⟩ := x
      obtain ⟨x0, x1, x2, x3⟩ := X'
      dsimp only at x0 x1 x2 x3
      by_cases h1 : xt = t
      · subst h1
        by_cases h2 : xk = k
        · subst h2
          go_wp2_with fail
          go_ret
          exact ⟨j, rfl, .inr ⟨j, _, rfl, HX.out, rfl, rfl⟩, rfl⟩
        · have HF2 : Hid (∀ y ∈ rs.take (j + 1), ¬ (y.t = xt ∧ y.k = k)) := HF.out (fun h => h2 h.2)
          have d2 : (xk == k) = false := by simpa using h2
          go_wp2_with fail
          go_roundw
          case rel => exact ⟨j + 1, by omega, by go_num, HF2, by simp⟩
          case measure => simp [intOf]; omega
      · have HF2 : Hid (∀ y ∈ rs.take (j + 1), ¬ (y.t = t ∧ y.k = k)) := HF.out (fun h => h1 h.1)
        have d1 : (xt == t) = false := by simpa using h1
        go_wp2_with fail
        go_roundw
        case rel => exact ⟨j + 1, by omega, by go_num, HF2, by simp⟩
        case measure => simp [intOf]; omega
    · have HF2 : Hid (∀ x ∈ rs, ¬ (x.t = t ∧ x.k = k)) := by
        have := hf.out
        rw [List.take_of_length_le (by rw [HN.out]; omega)] at this
        exact this
      have hjn : ¬ (j : Int) < (n : Int) := by omega
      clear hf
      go_wp2_with fail
      go_ret
      exact ⟨-1, rfl, .inl ⟨rfl, HF2.out⟩, rfl⟩

end Go.Proofs.Ytmbllmhpnopbdaa
