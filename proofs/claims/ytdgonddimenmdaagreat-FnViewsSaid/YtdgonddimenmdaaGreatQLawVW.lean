/-
  The law FnViews' walk: rows that are seen are rising, and each is found where it is.
-/
import Derived.Test.YtdgonddimenmdaaGreatQDfr
import Derived.Test.YtdgonddimenmdaaGreatQLwr
import Derived.Test.YtdgonddimenmdaaGreatQFns
import Derived.Test.YtdgonddimenmdaaGreatQSlo
import Derived.Test.YtdgonddimenmdaaGreatQMfa
import Derived.Deep.Cut
import Derived.Deep.RegionHeld

namespace Go.Proofs.YtdgonddimenmdaaGreat
open Go.RowKit
set_option linter.unusedVariables false
set_option maxRecDepth 20000

theorem lwBig_small (a : Option Addr) (n c : Nat) (w : World) (h : n ≤ 1048576) : Calls Tryz.prog 4 #[.slice a n c] w fun e w' => e = .returned (.bool false) ∧ w' = w := by
  have d : ¬ ((1048576 : Int) < (n : Int)) := by omega
  have d2 : decide ((1048576 : Int) < (n : Int)) = false := by simpa using d
  go_enter Tryz.func4, Tryz.ntmps4
  go_wp2
  go_ret
  exact ⟨rfl, rfl⟩
theorem lwBig_big (a : Option Addr) (n c : Nat) (w : World) (h : 1048576 < n) : Calls Tryz.prog 4 #[.slice a n c] w fun e w' => e = .returned (.bool true) ∧ w' = w := by
  have d : (1048576 : Int) < (n : Int) := by omega
  have d2 : decide ((1048576 : Int) < (n : Int)) = true := by simpa using d
  go_enter Tryz.func4, Tryz.ntmps4
  go_wp2
  go_ret
  exact ⟨rfl, rfl⟩

/-- What stands through the law: pages that may be read, and the rows told of them in block rb. -/
structure VwS (w : World) (pg : Nat) (ps : List (List Int)) (rb : Nat) (q : Int) (ra : Option Addr) (rn rc : Nat) (rs : List Rw) (V : World) : Prop where
  rd : PgRead V (some ⟨pg, 0, none⟩) ps
  c0 : V.cell? ⟨rb, 0, none⟩ = some (.int .i64 q)
  c1 : V.cell? ⟨rb, 1, none⟩ = some (.slice ra rn rc)
  rr : Rs rwE 4 V ra rs
  g : Below w.heap.size w V
theorem VwS.up {w : World} {pg : Nat} {ps : List (List Int)} {rb : Nat} {q : Int} {ra : Option Addr} {rn rc : Nat} {rs : List Rw} {V W : World} (h : VwS w pg ps rb q ra rn rc rs V) (hb : Below V.heap.size V W) : VwS w pg ps rb q ra rn rc rs W :=
  have hl : rb < V.heap.size := World.block_lt_of_cell? _ _ h.c0
  ⟨h.rd.below hb (Nat.le_refl _), (hb.cell (p := ⟨rb, 0, none⟩) hl).trans h.c0, (hb.cell (p := ⟨rb, 1, none⟩) hl).trans h.c1, h.rr.below hb (Nat.le_refl _), h.g.trans (hb.mono h.g.size)⟩
theorem VwS.drew {w : World} {pg : Nat} {ps : List (List Int)} {rb : Nat} {q : Int} {ra : Option Addr} {rn rc : Nat} {rs : List Rw} {V : World} (h : VwS w pg ps rb q ra rn rc rs V) : VwS w pg ps rb q ra rn rc rs V.drew := h.up (Below.refl _ _).drew

theorem rwF_size {r : Rw} (h : rwF r = 0) : r.s.size ≤ maxLen := by
  unfold rwF faultI at h
  split at h
  · split at h
    · rename_i h2
      simp [txtB] at h2
      have : r.s.size ≤ 8 := by omega
      exact Nat.le_trans this (by decide)
    · exact absurd h (by decide)
  · exact absurd h (by decide)
theorem viewQ_many {ps : List (List Int)} (h : 12 < ps.length) : viewQ ps = 2 := by
  have : allQ ps = 2 := by unfold allQ; rw [if_pos (by omega)]
  unfold viewQ
  rw [if_neg (by rw [this]; decide), this]
theorem wf_small {x : Int} (h1 : 0 ≤ x) (h2 : x ≤ 100000) : (Lit.int .i64 x).wf = true := (kw_small (y := x) (by unfold small; omega) (by unfold small; omega)).1
theorem hasC_lt {zs : List Int} {x : Int} (hz : ∀ z ∈ zs, 0 ≤ z ∧ z ≤ 255) (h : slotQ zs x = 0) : (Lit.int .i64 x).wf = true := by
  unfold slotQ at h
  split at h
  · rename_i hf
    split at h
    · rename_i hc
      have hF := fine_of hz hf
      have := nb_lt hF.pg 0
      unfold hasC inR at hc
      simp at hc
      have h1 : 0 ≤ x := by omega
      have h2 : x ≤ 255 := by omega
      exact wf_small h1 (by omega)
    · exact absurd h (by decide)
  · rename_i hf
    exact absurd h hf

set_option maxHeartbeats 16000000 in
theorem lawViews_any (a : Option Addr) (n c : Nat) (zs : List Int) (w : World) (hW : IsRow .u8 w a n c zs) :
    Calls Tryz.prog 3 #[.slice a n c] w fun e w' => e = .returned (.bool true) ∧ Below w.heap.size w w' := by
  have fr0 : ∀ (q : Int) (p : Option Addr) (n c : Nat) (W : World), (Instr.field 28 (.agg #[.int .i64 q, .slice p n c]) 0).run Tryz.prog W = .ok (.int .i64 q) W := fun _ _ _ _ _ => by kernel_rfl
  have fr1 : ∀ (q : Int) (p : Option Addr) (n c : Nat) (W : World), (Instr.field 28 (.agg #[.int .i64 q, .slice p n c]) 1).run Tryz.prog W = .ok (.slice p n c) W := fun _ _ _ _ _ => by kernel_rfl
  have fb0 : ∀ (q : Int) (p : Option Addr) (n c : Nat) (W : World), (Instr.field 37 (.agg #[.int .i64 q, .slice p n c]) 0).run Tryz.prog W = .ok (.int .i64 q) W := fun _ _ _ _ _ => by kernel_rfl
  obtain ⟨hl, hc, hrd, hz⟩ := isRow_reads hW
  clear hW
  generalize zs.take n = xs at hl hrd hz
  by_cases hb : 1048576 < n
  · go_enter Tryz.func3, Tryz.ntmps3
    go_wp2_with fail
    refine (lwBig_big a n c _ hb).mono ?_
    rintro e w' ⟨rfl, rfl⟩
    go_wp2_with fail
    go_ret
    exact ⟨rfl, Below.refl _ _⟩
  have HRd : Hid (∀ V, Below w.heap.size w V → Reads V a xs) := fun V hV => hrd.below hV (Nat.le_refl _)
  have HXl : Hid (xs.length = n) := hl
  have HXz : Hid (∀ z ∈ xs, 0 ≤ z ∧ z ≤ 255) := hz
  clear hrd hl hz hc
  go_enter Tryz.func3, Tryz.ntmps3
  go_wp2_with fail
  refine (lwBig_small a n c _ (by omega)).mono ?_
  rintro e w0 ⟨rfl, hw⟩
  have hw := hw.symm
  subst hw
  go_wp2_with fail
  refine (drawRowsIn_any a n c xs _ (HRd.out _ (Below.refl _ _)) HXl.out (by omega) HXz.out).mono ?_
  rintro e w1 ⟨pg, m, ps, rfl, hpl, hm2, hrd1, hok, g1⟩
  go_wp2_with fail
  refine (implRowsIn_any (some ⟨pg, 0, none⟩) ps m m w1 hpl (by omega) hok hrd1).mono ?_
  rintro e w2 ⟨v, rs, rfl, g2, ho, h0, hne⟩
  obtain ⟨ra, rc, rfl, hrc, hin, -⟩ := SlIn.ofRow rwE_len ho
  obtain ⟨q, hq⟩ : ∃ q, viewQ ps = q := ⟨_, rfl⟩
  have HQ : Hid (viewQ ps = q) := hq
  have HO0 : Hid (q = 0 → RowsOrd ps rs) := fun e => h0 (hq.trans e)
  rw [hq]
  have HRr := hin.reads
  obtain ⟨rn, hrn⟩ : ∃ rn, rs.length = rn := ⟨_, rfl⟩
  have HRN : Hid (rs.length = rn) := hrn
  rw [hrn]
  have hrd2 := hrd1.below g2 (Nat.le_refl _)
  have g := g1.trans (g2.mono g1.size)
  clear hq h0 hne ho hin hrc hrn hrd1 g1 g2
  go_upto_region 5 with (fail)
  generalize hY : World.alloc _ _ = Y
  have gY : Below w2.heap.size w2 Y := by rw [← hY]; go_grown
  have V : VwS w pg ps w2.heap.size q ra rn rc rs Y := ⟨hrd2.below gY (Nat.le_refl _), by rw [← hY]; simp [go_sem], by rw [← hY]; simp [go_sem], HRr.below gY (Nat.le_refl _), g.trans (gY.mono g.size)⟩
  clear hY gY hrd2 HRr g
  generalize w2.heap.size = rb at V ⊢
  have c0 := V.c0
  by_cases hq0 : q = 0
  case neg =>
    have d1 : (q == 0) = false := by simpa using hq0
    have d2 : (q != 0) = true := by simpa using hq0
    go_upto_region 6 with (fail)
    refine wp_region_held_drew (S := VwS w pg ps rb q ra rn rc rs) (by kernel_rfl) V.drew (fun hHeld => ?_)
    generalize Y.drew = D at hHeld ⊢
    clear V c0 HO0
    refine wpAnyH_take (i := 0) (v := ?v1) rfl (by kernel_rfl) (by kernel_rfl) (by kernel_rfl) (fun _ _ _ h => h) (Or.inl ⟨by kernel_rfl, ?h1⟩) hHeld ?_
    case h1 => intro u hSw; (obtain ⟨-, c0, c1, -, -⟩ := hSw); go_simp; try with_reducible rfl
    try simp only [List.getElem_toArray]
    try simp only [List.getElem_cons_succ]
    try simp only [List.getElem_cons_zero]
    try simp only [Act.put]
    try simp only [List.setIfInBounds_toArray]
    try simp only [List.set]
    refine wpAnyH_take (i := 3) (v := ?v2) rfl (by kernel_rfl) (by kernel_rfl) (by kernel_rfl) (fun _ _ _ h => h) (Or.inl ⟨by kernel_rfl, ?h2⟩) hHeld ?_
    case h2 => intro u hSw; (obtain ⟨-, c0, c1, -, -⟩ := hSw); go_simp; try with_reducible rfl
    try simp only [List.getElem_toArray]
    try simp only [List.getElem_cons_succ]
    try simp only [List.getElem_cons_zero]
    try simp only [Act.put]
    try simp only [List.setIfInBounds_toArray]
    try simp only [List.set]
    refine wpAnyH_take (i := 4) (v := ?v3) rfl (by kernel_rfl) (by kernel_rfl) (by kernel_rfl) (fun _ _ _ h => h) (Or.inl ⟨by kernel_rfl, ?h3⟩) hHeld ?_
    case h3 => intro u hSw; (obtain ⟨-, c0, c1, -, -⟩ := hSw); go_simp; try with_reducible rfl
    try simp only [List.getElem_toArray]
    try simp only [List.getElem_cons_succ]
    try simp only [List.getElem_cons_zero]
    try simp only [Act.put]
    try simp only [List.setIfInBounds_toArray]
    try simp only [List.set]
    refine wpAnyH_ready (rs := [1]) (by kernel_rfl) (by simp) ?_
    refine AllReadyH.cons rfl (fun K hK => ?_) AllReadyH.nil
    go_simp
    go_wp2_with (go_at_call 7; refine (specRowsIn_any (some ⟨pg, 0, none⟩) ps m m _ hpl (by omega) hok hHeld.rd).mono ?_; rintro e D1 ⟨v1, rs1, rfl, gb, ho1, -, -⟩; obtain ⟨y1, z1, rfl, -, -, -⟩ := SlIn.ofRow rwE_len ho1; rw [HQ.out]; clear ho1)
    refine hK.out _ _ (hHeld.up gb) (fun hHeld => ?_)
    clear hK K
    clear gb
    try simp only [Act.put]
    try simp only [List.setIfInBounds_toArray]
    try simp only [List.set]
    refine wpAnyH_take (i := 2) (v := ?v4) rfl (by kernel_rfl) (by kernel_rfl) (by kernel_rfl) (fun _ _ _ h => h) (Or.inl ⟨by kernel_rfl, ?h4⟩) hHeld ?_
    case h4 => intro u hSw; (obtain ⟨-, c0, c1, -, -⟩ := hSw); go_simp; try with_reducible rfl
    try simp only [List.getElem_toArray]
    try simp only [List.getElem_cons_succ]
    try simp only [List.getElem_cons_zero]
    try simp only [Act.put]
    try simp only [List.setIfInBounds_toArray]
    try simp only [List.set]
    refine wpAnyH_take (i := 5) (v := ?v5) rfl (by kernel_rfl) (by kernel_rfl) (by kernel_rfl) (fun _ _ _ h => h) (Or.inl ⟨by kernel_rfl, ?h5⟩) hHeld ?_
    case h5 => intro u hSw; (obtain ⟨-, c0, c1, -, -⟩ := hSw); go_simp; try with_reducible rfl
    try simp only [List.getElem_toArray]
    try simp only [List.getElem_cons_succ]
    try simp only [List.getElem_cons_zero]
    try simp only [Act.put]
    try simp only [List.setIfInBounds_toArray]
    try simp only [List.set]
    refine wpAnyH_take (i := 6) (v := ?v6) rfl (by kernel_rfl) (by kernel_rfl) (by kernel_rfl) (fun _ _ _ h => h) (Or.inl ⟨by kernel_rfl, ?h6⟩) hHeld ?_
    case h6 => intro u hSw; (obtain ⟨-, c0, c1, -, -⟩ := hSw); go_simp; try with_reducible rfl
    try simp only [List.getElem_toArray]
    try simp only [List.getElem_cons_succ]
    try simp only [List.getElem_cons_zero]
    try simp only [Act.put]
    try simp only [List.setIfInBounds_toArray]
    try simp only [List.set]
    refine wpAnyH_take (i := 7) (v := ?v7) rfl (by kernel_rfl) (by kernel_rfl) (by kernel_rfl) (fun _ _ _ h => h) (Or.inl ⟨by kernel_rfl, ?h7⟩) hHeld ?_
    case h7 => intro u hSw; (obtain ⟨-, c0, c1, -, -⟩ := hSw); go_simp; try with_reducible rfl
    try simp only [List.getElem_toArray]
    try simp only [List.getElem_cons_succ]
    try simp only [List.getElem_cons_zero]
    try simp only [Act.put]
    try simp only [List.setIfInBounds_toArray]
    try simp only [List.set]
    refine wpAnyH_take (i := 9) (v := ?v8) rfl (by kernel_rfl) (by kernel_rfl) (by kernel_rfl) (fun _ _ _ h => h) (Or.inl ⟨by kernel_rfl, ?h8⟩) hHeld ?_
    case h8 => intro u hSw; (obtain ⟨-, c0, c1, -, -⟩ := hSw); go_simp; try with_reducible rfl
    try simp only [List.getElem_toArray]
    try simp only [List.getElem_cons_succ]
    try simp only [List.getElem_cons_zero]
    try simp only [Act.put]
    try simp only [List.setIfInBounds_toArray]
    try simp only [List.set]
    refine wpAnyH_take (i := 10) (v := ?v9) rfl (by kernel_rfl) (by kernel_rfl) (by kernel_rfl) (fun _ _ _ h => h) (Or.inl ⟨by kernel_rfl, ?h9⟩) hHeld ?_
    case h9 => intro u hSw; (obtain ⟨-, c0, c1, -, -⟩ := hSw); go_simp; try with_reducible rfl
    try simp only [List.getElem_toArray]
    try simp only [List.getElem_cons_succ]
    try simp only [List.getElem_cons_zero]
    try simp only [Act.put]
    try simp only [List.setIfInBounds_toArray]
    try simp only [List.set]
    refine wpAnyH_ready (rs := [8]) (by kernel_rfl) (by simp) ?_
    refine AllReadyH.cons rfl (fun K hK => ?_) AllReadyH.nil
    go_simp
    go_wp2_with (go_at_call 8; refine (implPagesFault_any (some ⟨pg, 0, none⟩) ps m m _ hpl (by omega) hok hHeld.rd).mono ?_; rintro e D2 ⟨rfl, gb⟩; rw [HQ.out])
    refine hK.out _ _ (hHeld.up gb) (fun hHeld => ?_)
    clear hK K
    clear gb
    try simp only [Act.put]
    try simp only [List.setIfInBounds_toArray]
    try simp only [List.set]
    refine wpAnyH_take (i := 11) (v := ?v10) rfl (by kernel_rfl) (by kernel_rfl) (by kernel_rfl) (fun _ _ _ h => h) (Or.inl ⟨by kernel_rfl, ?h10⟩) hHeld ?_
    case h10 => intro u hSw; (obtain ⟨-, c0, c1, -, -⟩ := hSw); go_simp; try with_reducible rfl
    try simp only [List.getElem_toArray]
    try simp only [List.getElem_cons_succ]
    try simp only [List.getElem_cons_zero]
    try simp only [Act.put]
    try simp only [List.setIfInBounds_toArray]
    try simp only [List.set]
    refine wpAnyH_take (i := 12) (v := ?v11) rfl (by kernel_rfl) (by kernel_rfl) (by kernel_rfl) (fun _ _ _ h => h) (Or.inl ⟨by kernel_rfl, ?h11⟩) hHeld ?_
    case h11 => intro u hSw; (obtain ⟨-, c0, c1, -, -⟩ := hSw); go_simp; try with_reducible rfl
    try simp only [List.getElem_toArray]
    try simp only [List.getElem_cons_succ]
    try simp only [List.getElem_cons_zero]
    try simp only [Act.put]
    try simp only [List.setIfInBounds_toArray]
    try simp only [List.set]
    refine wpAnyH_take (i := 13) (v := ?v12) rfl (by kernel_rfl) (by kernel_rfl) (by kernel_rfl) (fun _ _ _ h => h) (Or.inl ⟨by kernel_rfl, ?h12⟩) hHeld ?_
    case h12 => intro u hSw; (obtain ⟨-, c0, c1, -, -⟩ := hSw); go_simp; try with_reducible rfl
    try simp only [List.getElem_toArray]
    try simp only [List.getElem_cons_succ]
    try simp only [List.getElem_cons_zero]
    try simp only [Act.put]
    try simp only [List.setIfInBounds_toArray]
    try simp only [List.set]
    refine wpAnyH_done (by kernel_rfl) ?_ _
    go_wp2_with fail
    go_ret
    exact ⟨rfl, hHeld.g⟩
  case pos =>
    subst hq0
    have hO := HO0.out rfl
    have hm : m = 2 := by
      rcases hm2 with h | h
      · exact h
      · have := viewQ_many (ps := ps) (by omega)
        rw [HQ.out] at this
        exact absurd this (by decide)
    subst hm
    have HOr : Hid (RowsOrd ps rs) := hO
    have HOk : Hid (PgOk ps) := hok
    have HRQ : Hid (rowsQ rs = 0) := rows_seen hok HQ.out (by omega) hO
    have HFn : Hid (∀ r ∈ rs, ∃ z, findR ps r.t r.k = z ∧ z.q = 0 ∧ z.r = r ∧ ∃ (i k : Nat) (zs : List Int), z.p = i ∧ z.s = k ∧ ps[i]? = some zs ∧ slotQ zs k = 0) := fun r hr => row_found hok HQ.out hO hr
    have HSz : Hid (∀ r ∈ rs, r.s.size ≤ maxLen) := fun r hr => by
      obtain ⟨y, hy, rfl⟩ := List.mem_map.1 (hO.1.mem_iff.1 hr)
      exact rwF_size (seen_at hok HQ.out y hy).1
    have hrn32 : rn ≤ 32 := by rw [← HRN.out, hO.1.length_eq, List.length_map]; exact seen_few hok (by omega)
    clear hO HO0 hm2 hok
    go_wp2_with fail
    go_loopw [5] (fun k wr => ∃ j : Nat, j ≤ rn ∧ k = .int .i64 j ∧ VwS w pg ps rb 0 ra rn rc rs wr) (fun k _ => rn - (intOf k).toNat)
    case atStart => exact ⟨0, Nat.zero_le _, rfl, V⟩
    case round =>
      clear V c0
      obtain ⟨j, hj, rfl, V⟩ := hrel
      by_cases hlt : j < rn
      · obtain ⟨x, hx⟩ := at_lt (rs := rs) (i := j) (by rw [HRN.out]; exact hlt)
        obtain ⟨⟨zq, zp, zs', zr⟩, hz, e1, e2, i, k, zi, e3, e4, hzi, hsl⟩ := HFn.out x (List.mem_of_getElem? hx)
        dsimp only at e1 e2 e3 e4
        subst e1 e2 e3 e4
        obtain ⟨rb', ro, rfl, X⟩ := V.rr.row hx
        have hi2 : i < 2 := by rw [← hpl]; exact (List.getElem?_eq_some_iff.1 hzi).1
        have HPz : Hid (zi.length ≤ 1048576 ∧ ∀ z ∈ zi, 0 ≤ z ∧ z ≤ 255) := by have := HOk.out zi (List.mem_of_getElem? hzi); exact ⟨by omega, this.2⟩
        have hkw := hasC_lt HPz.out.2 hsl
        have HSl : Hid (slotQ zi k = 0) := hsl
        have HZi : Hid (ps[i]? = some zi) := hzi
        obtain ⟨zn, hzn⟩ : ∃ zn, zi.length = zn := ⟨_, rfl⟩
        rw [hzn] at HPz
        obtain ⟨xt, xk, xv, xs⟩ := zr
        have HZ : Hid (findR ps xt xk = ⟨0, i, k, ⟨xt, xk, xv, xs⟩⟩) := hz
        have HXj : Hid (rs[j]? = some ⟨xt, xk, xv, xs⟩) := hx
        clear hx hz hzi hsl
        have hjn : (j : Int) < (rn : Int) := by omega
        have c1 := V.c1
        go_upto_region 10 with (fail)
        clear c1
        go_cut [6] from 34 to 91 (fun s6 wc => ∃ fb : Nat, s6 = .pointer (some ⟨fb, 0, none⟩) ∧ VwS w pg ps rb 0 (some ⟨rb', ro, none⟩) rn rc rs wc ∧ PlC wc fb 0 ⟨0, i, k, ⟨xt, xk, xv, xs⟩⟩)
        case first =>
          refine wp_region_held_drew (S := fun V => VwS w pg ps rb 0 (some ⟨rb', ro, none⟩) rn rc rs V ∧ RowC V rb' (ro + j * 4) ⟨xt, xk, xv, xs⟩) (by kernel_rfl) ⟨V.drew, X.below (Below.refl _ _).drew (World.block_lt_of_cell? _ _ X.c0)⟩ (fun hHeld => ?_)
          generalize wr.drew = D at hHeld ⊢
          clear V X
          refine wpAnyH_take (i := 0) (v := ?v13) rfl (by kernel_rfl) (by kernel_rfl) (by kernel_rfl) (fun _ _ _ h => h) (Or.inl ⟨by kernel_rfl, ?h13⟩) hHeld ?_
          case h13 => intro u hSw; (obtain ⟨-, c0, c1, -, -⟩ := hSw.1; obtain ⟨r0, r1, r2, r3⟩ := hSw.2; dsimp only at r0 r1 r2 r3); clear hSw; go_simp; try with_reducible rfl
          try simp only [List.getElem_toArray]
          try simp only [List.getElem_cons_succ]
          try simp only [List.getElem_cons_zero]
          try simp only [Act.put]
          try simp only [List.setIfInBounds_toArray]
          try simp only [List.set]
          refine wpAnyH_take (i := 1) (v := ?v14) rfl (by kernel_rfl) (by kernel_rfl) (by kernel_rfl) (fun _ _ _ h => h) (Or.inl ⟨by kernel_rfl, ?h14⟩) hHeld ?_
          case h14 => intro u hSw; (obtain ⟨-, c0, c1, -, -⟩ := hSw.1; obtain ⟨r0, r1, r2, r3⟩ := hSw.2; dsimp only at r0 r1 r2 r3); clear hSw; go_simp; try with_reducible rfl
          try simp only [List.getElem_toArray]
          try simp only [List.getElem_cons_succ]
          try simp only [List.getElem_cons_zero]
          try simp only [Act.put]
          try simp only [List.setIfInBounds_toArray]
          try simp only [List.set]
          refine wpAnyH_take (i := 2) (v := ?v15) rfl (by kernel_rfl) (by kernel_rfl) (by kernel_rfl) (fun _ _ _ h => h) (Or.inl ⟨by kernel_rfl, ?h15⟩) hHeld ?_
          case h15 => intro u hSw; (obtain ⟨-, c0, c1, -, -⟩ := hSw.1; obtain ⟨r0, r1, r2, r3⟩ := hSw.2; dsimp only at r0 r1 r2 r3); clear hSw; go_simp; try with_reducible rfl
          try simp only [List.getElem_toArray]
          try simp only [List.getElem_cons_succ]
          try simp only [List.getElem_cons_zero]
          try simp only [Act.put]
          try simp only [List.setIfInBounds_toArray]
          try simp only [List.set]
          refine wpAnyH_take (i := 3) (v := ?v16) rfl (by kernel_rfl) (by kernel_rfl) (by kernel_rfl) (fun _ _ _ h => h) (Or.inl ⟨by kernel_rfl, ?h16⟩) hHeld ?_
          case h16 => intro u hSw; (obtain ⟨-, c0, c1, -, -⟩ := hSw.1; obtain ⟨r0, r1, r2, r3⟩ := hSw.2; dsimp only at r0 r1 r2 r3); clear hSw; go_simp; try with_reducible rfl
          try simp only [List.getElem_toArray]
          try simp only [List.getElem_cons_succ]
          try simp only [List.getElem_cons_zero]
          try simp only [Act.put]
          try simp only [List.setIfInBounds_toArray]
          try simp only [List.set]
          refine wpAnyH_take (i := 4) (v := ?v17) rfl (by kernel_rfl) (by kernel_rfl) (by kernel_rfl) (fun _ _ _ h => h) (Or.inl ⟨by kernel_rfl, ?h17⟩) hHeld ?_
          case h17 => intro u hSw; (obtain ⟨-, c0, c1, -, -⟩ := hSw.1; obtain ⟨r0, r1, r2, r3⟩ := hSw.2; dsimp only at r0 r1 r2 r3); clear hSw; go_simp; try with_reducible rfl
          try simp only [List.getElem_toArray]
          try simp only [List.getElem_cons_succ]
          try simp only [List.getElem_cons_zero]
          try simp only [Act.put]
          try simp only [List.setIfInBounds_toArray]
          try simp only [List.set]
          refine wpAnyH_take (i := 5) (v := ?v18) rfl (by kernel_rfl) (by kernel_rfl) (by kernel_rfl) (fun _ _ _ h => h) (Or.inl ⟨by kernel_rfl, ?h18⟩) hHeld ?_
          case h18 => intro u hSw; (obtain ⟨-, c0, c1, -, -⟩ := hSw.1; obtain ⟨r0, r1, r2, r3⟩ := hSw.2; dsimp only at r0 r1 r2 r3); clear hSw; go_simp; try with_reducible rfl
          try simp only [List.getElem_toArray]
          try simp only [List.getElem_cons_succ]
          try simp only [List.getElem_cons_zero]
          try simp only [Act.put]
          try simp only [List.setIfInBounds_toArray]
          try simp only [List.set]
          refine wpAnyH_take (i := 6) (v := ?v19) rfl (by kernel_rfl) (by kernel_rfl) (by kernel_rfl) (fun _ _ _ h => h) (Or.inl ⟨by kernel_rfl, ?h19⟩) hHeld ?_
          case h19 => intro u hSw; (obtain ⟨-, c0, c1, -, -⟩ := hSw.1; obtain ⟨r0, r1, r2, r3⟩ := hSw.2; dsimp only at r0 r1 r2 r3); clear hSw; go_simp; try with_reducible rfl
          try simp only [List.getElem_toArray]
          try simp only [List.getElem_cons_succ]
          try simp only [List.getElem_cons_zero]
          try simp only [Act.put]
          try simp only [List.setIfInBounds_toArray]
          try simp only [List.set]
          refine wpAnyH_take (i := 7) (v := ?v20) rfl (by kernel_rfl) (by kernel_rfl) (by kernel_rfl) (fun _ _ _ h => h) (Or.inl ⟨by kernel_rfl, ?h20⟩) hHeld ?_
          case h20 => intro u hSw; (obtain ⟨-, c0, c1, -, -⟩ := hSw.1; obtain ⟨r0, r1, r2, r3⟩ := hSw.2; dsimp only at r0 r1 r2 r3); clear hSw; go_simp; try with_reducible rfl
          try simp only [List.getElem_toArray]
          try simp only [List.getElem_cons_succ]
          try simp only [List.getElem_cons_zero]
          try simp only [Act.put]
          try simp only [List.setIfInBounds_toArray]
          try simp only [List.set]
          refine wpAnyH_take (i := 8) (v := ?v21) rfl (by kernel_rfl) (by kernel_rfl) (by kernel_rfl) (fun _ _ _ h => h) (Or.inl ⟨by kernel_rfl, ?h21⟩) hHeld ?_
          case h21 => intro u hSw; (obtain ⟨-, c0, c1, -, -⟩ := hSw.1; obtain ⟨r0, r1, r2, r3⟩ := hSw.2; dsimp only at r0 r1 r2 r3); clear hSw; go_simp; try with_reducible rfl
          try simp only [List.getElem_toArray]
          try simp only [List.getElem_cons_succ]
          try simp only [List.getElem_cons_zero]
          try simp only [Act.put]
          try simp only [List.setIfInBounds_toArray]
          try simp only [List.set]
          refine wpAnyH_take (i := 9) (v := ?v22) rfl (by kernel_rfl) (by kernel_rfl) (by kernel_rfl) (fun _ _ _ h => h) (Or.inl ⟨by kernel_rfl, ?h22⟩) hHeld ?_
          case h22 => intro u hSw; (obtain ⟨-, c0, c1, -, -⟩ := hSw.1; obtain ⟨r0, r1, r2, r3⟩ := hSw.2; dsimp only at r0 r1 r2 r3); clear hSw; go_simp; try with_reducible rfl
          try simp only [List.getElem_toArray]
          try simp only [List.getElem_cons_succ]
          try simp only [List.getElem_cons_zero]
          try simp only [Act.put]
          try simp only [List.setIfInBounds_toArray]
          try simp only [List.set]
          refine wpAnyH_take (i := 10) (v := ?v23) rfl (by kernel_rfl) (by kernel_rfl) (by kernel_rfl) (fun _ _ _ h => h) (Or.inl ⟨by kernel_rfl, ?h23⟩) hHeld ?_
          case h23 => intro u hSw; (obtain ⟨-, c0, c1, -, -⟩ := hSw.1; obtain ⟨r0, r1, r2, r3⟩ := hSw.2; dsimp only at r0 r1 r2 r3); clear hSw; go_simp; try with_reducible rfl
          try simp only [List.getElem_toArray]
          try simp only [List.getElem_cons_succ]
          try simp only [List.getElem_cons_zero]
          try simp only [Act.put]
          try simp only [List.setIfInBounds_toArray]
          try simp only [List.set]
          refine wpAnyH_take (i := 11) (v := ?v24) rfl (by kernel_rfl) (by kernel_rfl) (by kernel_rfl) (fun _ _ _ h => h) (Or.inl ⟨by kernel_rfl, ?h24⟩) hHeld ?_
          case h24 => intro u hSw; (obtain ⟨-, c0, c1, -, -⟩ := hSw.1; obtain ⟨r0, r1, r2, r3⟩ := hSw.2; dsimp only at r0 r1 r2 r3); clear hSw; go_simp; try with_reducible rfl
          try simp only [List.getElem_toArray]
          try simp only [List.getElem_cons_succ]
          try simp only [List.getElem_cons_zero]
          try simp only [Act.put]
          try simp only [List.setIfInBounds_toArray]
          try simp only [List.set]
          refine wpAnyH_take (i := 12) (v := ?v25) rfl (by kernel_rfl) (by kernel_rfl) (by kernel_rfl) (fun _ _ _ h => h) (Or.inl ⟨by kernel_rfl, ?h25⟩) hHeld ?_
          case h25 => intro u hSw; (obtain ⟨-, c0, c1, -, -⟩ := hSw.1; obtain ⟨r0, r1, r2, r3⟩ := hSw.2; dsimp only at r0 r1 r2 r3); clear hSw; go_simp; try with_reducible rfl
          try simp only [List.getElem_toArray]
          try simp only [List.getElem_cons_succ]
          try simp only [List.getElem_cons_zero]
          try simp only [Act.put]
          try simp only [List.setIfInBounds_toArray]
          try simp only [List.set]
          refine wpAnyH_ready (rs := [13, 14]) (by kernel_rfl) (by simp) ?_
          refine AllReadyH.cons rfl (fun K hK => ?_) (AllReadyH.cons rfl (fun K hK => ?_) AllReadyH.nil)
          · go_simp
            go_wp2_with (go_at_call 9; refine (implFindRow_any (some ⟨pg, 0, none⟩) ps 2 2 xt xk _ hpl (by omega) HOk.out hHeld.1.rd).mono ?_; rintro e D1 ⟨rfl, gb⟩; rw [HZ.out]; simp only [plV])
            refine hK.out _ _ ⟨hHeld.1.up gb, hHeld.2.below gb (World.block_lt_of_cell? _ _ hHeld.2.c0)⟩ (fun hHeld => ?_)
            clear hK K gb
            try simp only [Act.put]
            try simp only [List.setIfInBounds_toArray]
            try simp only [List.set]
            have HV := hHeld
            refine wpAnyH_ready (rs := [14]) (by kernel_rfl) (by simp) ?_
            refine AllReadyH.cons rfl (fun K hK => ?_) AllReadyH.nil
            have gg : Below D1.heap.size D1 (D1.alloc (.cells #[.int .i64 0, .int .i64 0, .int .i64 0, .int .i64 0, .int .i64 0, .int .i64 0, .string ⟨#[]⟩] 34)) := by go_grown
            have hO := PlO.new D1
            have hab2 : w.heap.size ≤ D1.heap.size := hHeld.1.g.size
            have hab3 : D1.heap.size < (D1.alloc (.cells #[.int .i64 0, .int .i64 0, .int .i64 0, .int .i64 0, .int .i64 0, .int .i64 0, .string ⟨#[]⟩] 34)).heap.size := by simp
            go_simp
            refine hK.out _ _ ⟨hHeld.1.up gg, hHeld.2.below gg (World.block_lt_of_cell? _ _ hHeld.2.c0)⟩ (fun hHeld => ?_)
            clear hK K
            generalize D1.alloc (.cells #[.int .i64 0, .int .i64 0, .int .i64 0, .int .i64 0, .int .i64 0, .int .i64 0, .string ⟨#[]⟩] 34) = D2 at hHeld hO gg hab3 ⊢
            try simp only [Act.put]
            try simp only [List.setIfInBounds_toArray]
            try simp only [List.set]
            have V0 := HV
            generalize hab : D1.heap.size = ab at hO hab2 hab3 ⊢
            have T : Turned ab (ab + 1) D2 (((((((D2.setCell ⟨ab, 0, none⟩ (.int .i64 0)).setCell ⟨ab, 1, none⟩ (.int .i64 i)).setCell ⟨ab, 2, none⟩ (.int .i64 k)).setCell ⟨ab, 3, none⟩ (.int .i64 xt)).setCell ⟨ab, 4, none⟩ (.int .i64 xk)).setCell ⟨ab, 5, none⟩ (.int .i64 xv)).setCell ⟨ab, 6, none⟩ (.string xs)) := ((((((((Turned.refl _ _ D2).setCell (p := ⟨ab, 0, none⟩) (Nat.le_refl _) (Nat.lt_succ_self _) _).setCell (p := ⟨ab, 1, none⟩) (Nat.le_refl _) (Nat.lt_succ_self _) _).setCell (p := ⟨ab, 2, none⟩) (Nat.le_refl _) (Nat.lt_succ_self _) _).setCell (p := ⟨ab, 3, none⟩) (Nat.le_refl _) (Nat.lt_succ_self _) _).setCell (p := ⟨ab, 4, none⟩) (Nat.le_refl _) (Nat.lt_succ_self _) _).setCell (p := ⟨ab, 5, none⟩) (Nat.le_refl _) (Nat.lt_succ_self _) _).setCell (p := ⟨ab, 6, none⟩) (Nat.le_refl _) (Nat.lt_succ_self _) _)
            have gT : Below D1.heap.size D1 (((((((D2.setCell ⟨ab, 0, none⟩ (.int .i64 0)).setCell ⟨ab, 1, none⟩ (.int .i64 i)).setCell ⟨ab, 2, none⟩ (.int .i64 k)).setCell ⟨ab, 3, none⟩ (.int .i64 xt)).setCell ⟨ab, 4, none⟩ (.int .i64 xk)).setCell ⟨ab, 5, none⟩ (.int .i64 xv)).setCell ⟨ab, 6, none⟩ (.string xs)) := (gg).trans (T.toBelow (gg).size (by omega))
            obtain ⟨a0, a1, a2, a3, a4, a5, a6, b0, b1, b2, b3, b4, b5, b6⟩ := hO
            refine wpAnyH_ready (rs := [15]) (by kernel_rfl) (by simp) ?_
            refine AllReadyH.cons rfl (fun K hK => ?_) AllReadyH.nil
            go_simp
            refine hK.out _ _ ⟨V0.1.up gT, V0.2.below gT (World.block_lt_of_cell? _ _ V0.2.c0)⟩ (fun hHeld => ?_)
            clear hK K
            try simp only [Act.put]
            try simp only [List.setIfInBounds_toArray]
            try simp only [List.set]
            refine wpAnyH_done (by kernel_rfl) ?_ _
            have hP : PlC (((((((D2.setCell ⟨ab, 0, none⟩ (.int .i64 0)).setCell ⟨ab, 1, none⟩ (.int .i64 i)).setCell ⟨ab, 2, none⟩ (.int .i64 k)).setCell ⟨ab, 3, none⟩ (.int .i64 xt)).setCell ⟨ab, 4, none⟩ (.int .i64 xk)).setCell ⟨ab, 5, none⟩ (.int .i64 xv)).setCell ⟨ab, 6, none⟩ (.string xs)) ab 0 ⟨0, i, k, ⟨xt, xk, xv, xs⟩⟩ := ⟨by simp [go_sem, *], by simp [go_sem, *], by simp [go_sem, *], by simp [go_sem, *], by simp [go_sem, *], by simp [go_sem, *], by simp [go_sem, *]⟩
            clear T gT V0 HV gg a0 a1 a2 a3 a4 a5 a6 b0 b1 b2 b3 b4 b5 b6
            go_wp2_with fail
            go_meet
            case rel => exact ⟨ab, rfl, hHeld.1, hP⟩
          · have HV := hHeld
            have gg : Below D.heap.size D (D.alloc (.cells #[.int .i64 0, .int .i64 0, .int .i64 0, .int .i64 0, .int .i64 0, .int .i64 0, .string ⟨#[]⟩] 34)) := by go_grown
            have hO := PlO.new D
            have hab2 : w.heap.size ≤ D.heap.size := hHeld.1.g.size
            have hab3 : D.heap.size < (D.alloc (.cells #[.int .i64 0, .int .i64 0, .int .i64 0, .int .i64 0, .int .i64 0, .int .i64 0, .string ⟨#[]⟩] 34)).heap.size := by simp
            go_simp
            refine hK.out _ _ ⟨hHeld.1.up gg, hHeld.2.below gg (World.block_lt_of_cell? _ _ hHeld.2.c0)⟩ (fun hHeld => ?_)
            clear hK K
            generalize D.alloc (.cells #[.int .i64 0, .int .i64 0, .int .i64 0, .int .i64 0, .int .i64 0, .int .i64 0, .string ⟨#[]⟩] 34) = D3 at hHeld hO gg hab3 ⊢
            try simp only [Act.put]
            try simp only [List.setIfInBounds_toArray]
            try simp only [List.set]
            refine wpAnyH_ready (rs := [13]) (by kernel_rfl) (by simp) ?_
            refine AllReadyH.cons rfl (fun K hK => ?_) AllReadyH.nil
            go_simp
            go_wp2_with (go_at_call 9; refine (implFindRow_any (some ⟨pg, 0, none⟩) ps 2 2 xt xk _ hpl (by omega) HOk.out hHeld.1.rd).mono ?_; rintro e D4 ⟨rfl, gb⟩; rw [HZ.out]; simp only [plV])
            refine hK.out _ _ ⟨hHeld.1.up gb, hHeld.2.below gb (World.block_lt_of_cell? _ _ hHeld.2.c0)⟩ (fun hHeld => ?_)
            clear hK K
            have hO := hO.below gb
            have gg := gg.trans (gb.mono gg.size)
            clear gb
            try simp only [Act.put]
            try simp only [List.setIfInBounds_toArray]
            try simp only [List.set]
            have V0 := HV
            generalize hab : D.heap.size = ab at hO hab2 hab3 ⊢
            have T : Turned ab (ab + 1) D4 (((((((D4.setCell ⟨ab, 0, none⟩ (.int .i64 0)).setCell ⟨ab, 1, none⟩ (.int .i64 i)).setCell ⟨ab, 2, none⟩ (.int .i64 k)).setCell ⟨ab, 3, none⟩ (.int .i64 xt)).setCell ⟨ab, 4, none⟩ (.int .i64 xk)).setCell ⟨ab, 5, none⟩ (.int .i64 xv)).setCell ⟨ab, 6, none⟩ (.string xs)) := ((((((((Turned.refl _ _ D4).setCell (p := ⟨ab, 0, none⟩) (Nat.le_refl _) (Nat.lt_succ_self _) _).setCell (p := ⟨ab, 1, none⟩) (Nat.le_refl _) (Nat.lt_succ_self _) _).setCell (p := ⟨ab, 2, none⟩) (Nat.le_refl _) (Nat.lt_succ_self _) _).setCell (p := ⟨ab, 3, none⟩) (Nat.le_refl _) (Nat.lt_succ_self _) _).setCell (p := ⟨ab, 4, none⟩) (Nat.le_refl _) (Nat.lt_succ_self _) _).setCell (p := ⟨ab, 5, none⟩) (Nat.le_refl _) (Nat.lt_succ_self _) _).setCell (p := ⟨ab, 6, none⟩) (Nat.le_refl _) (Nat.lt_succ_self _) _)
            have gT : Below D.heap.size D (((((((D4.setCell ⟨ab, 0, none⟩ (.int .i64 0)).setCell ⟨ab, 1, none⟩ (.int .i64 i)).setCell ⟨ab, 2, none⟩ (.int .i64 k)).setCell ⟨ab, 3, none⟩ (.int .i64 xt)).setCell ⟨ab, 4, none⟩ (.int .i64 xk)).setCell ⟨ab, 5, none⟩ (.int .i64 xv)).setCell ⟨ab, 6, none⟩ (.string xs)) := (gg).trans (T.toBelow (gg).size (by omega))
            obtain ⟨a0, a1, a2, a3, a4, a5, a6, b0, b1, b2, b3, b4, b5, b6⟩ := hO
            refine wpAnyH_ready (rs := [15]) (by kernel_rfl) (by simp) ?_
            refine AllReadyH.cons rfl (fun K hK => ?_) AllReadyH.nil
            go_simp
            refine hK.out _ _ ⟨V0.1.up gT, V0.2.below gT (World.block_lt_of_cell? _ _ V0.2.c0)⟩ (fun hHeld => ?_)
            clear hK K
            try simp only [Act.put]
            try simp only [List.setIfInBounds_toArray]
            try simp only [List.set]
            refine wpAnyH_done (by kernel_rfl) ?_ _
            have hP : PlC (((((((D4.setCell ⟨ab, 0, none⟩ (.int .i64 0)).setCell ⟨ab, 1, none⟩ (.int .i64 i)).setCell ⟨ab, 2, none⟩ (.int .i64 k)).setCell ⟨ab, 3, none⟩ (.int .i64 xt)).setCell ⟨ab, 4, none⟩ (.int .i64 xk)).setCell ⟨ab, 5, none⟩ (.int .i64 xv)).setCell ⟨ab, 6, none⟩ (.string xs)) ab 0 ⟨0, i, k, ⟨xt, xk, xv, xs⟩⟩ := ⟨by simp [go_sem, *], by simp [go_sem, *], by simp [go_sem, *], by simp [go_sem, *], by simp [go_sem, *], by simp [go_sem, *], by simp [go_sem, *]⟩
            clear T gT V0 HV gg a0 a1 a2 a3 a4 a5 a6 b0 b1 b2 b3 b4 b5 b6
            go_wp2_with fail
            go_meet
            case rel => exact ⟨ab, rfl, hHeld.1, hP⟩
        case rest =>
          clear V X
          obtain ⟨fb, rfl, V, F⟩ := hcut
          have X := V.rr.row (r := ⟨xt, xk, xv, xs⟩) (i := j) HXj.out
          obtain ⟨rb2, ro2, er, X⟩ := X
          simp only [Option.some.injEq, Addr.mk.injEq, and_true] at er
          obtain ⟨rfl, rfl⟩ := er
          obtain ⟨pb, po, xa, xc, ep, pc, hxc, hHX0⟩ := V.rd.page HZi.out
          simp only [Option.some.injEq, Addr.mk.injEq, and_true] at ep
          obtain ⟨rfl, rfl⟩ := ep
          rw [hzn] at pc hxc
          rw [Nat.zero_add] at pc
          go_upto_region 11 with (fail)
          have HHX : Hid (Reads wc.drew xa zi) := hHX0.below (Below.refl _ _).drew (Nat.le_refl _)
          rcases (show i = 0 ∨ i = 1 by omega) with rfl | rfl
          · refine wp_region_held_drew (S := fun V => VwS w pg ps rb 0 (some ⟨rb', ro, none⟩) rn rc rs V ∧ PlC V fb 0 ⟨0, (0 : Nat), k, ⟨xt, xk, xv, xs⟩⟩ ∧ RowC V rb' (ro + j * 4) ⟨xt, xk, xv, xs⟩ ∧ V.cell? ⟨pg, 0, none⟩ = some (.slice xa zn xc)) (by kernel_rfl) ⟨V.drew, F.below (Below.refl _ _).drew F.lt, X.below (Below.refl _ _).drew (World.block_lt_of_cell? _ _ X.c0), pc⟩ (fun hHeld => ?_)
            have hHX := HHX.out
            generalize wc.drew = D at hHeld hHX ⊢
            clear V F X pc HHX hHX0
            refine wpAnyH_take (i := 0) (v := ?v50) rfl (by kernel_rfl) (by kernel_rfl) (by kernel_rfl) (fun _ _ _ h => h) (Or.inl ⟨by kernel_rfl, ?h50⟩) hHeld ?_
            case h50 => intro u hSw; (obtain ⟨-, c0, c1, -, -⟩ := hSw.1; obtain ⟨f0, f1, f2, f3, f4, f5, f6⟩ := hSw.2.1; obtain ⟨r0, r1, r2, r3⟩ := hSw.2.2.1; have pc := hSw.2.2.2; dsimp only at f0 f1 f2 f3 f4 f5 f6 r0 r1 r2 r3); clear hSw; go_simp; try with_reducible rfl
            try simp only [List.getElem_toArray]
            try simp only [List.getElem_cons_succ]
            try simp only [List.getElem_cons_zero]
            try simp only [Act.put]
            try simp only [List.setIfInBounds_toArray]
            try simp only [List.set]
            refine wpAnyH_take (i := 1) (v := ?v51) rfl (by kernel_rfl) (by kernel_rfl) (by kernel_rfl) (fun _ _ _ h => h) (Or.inl ⟨by kernel_rfl, ?h51⟩) hHeld ?_
            case h51 => intro u hSw; (obtain ⟨-, c0, c1, -, -⟩ := hSw.1; obtain ⟨f0, f1, f2, f3, f4, f5, f6⟩ := hSw.2.1; obtain ⟨r0, r1, r2, r3⟩ := hSw.2.2.1; have pc := hSw.2.2.2; dsimp only at f0 f1 f2 f3 f4 f5 f6 r0 r1 r2 r3); clear hSw; go_simp; try with_reducible rfl
            try simp only [List.getElem_toArray]
            try simp only [List.getElem_cons_succ]
            try simp only [List.getElem_cons_zero]
            try simp only [Act.put]
            try simp only [List.setIfInBounds_toArray]
            try simp only [List.set]
            refine wpAnyH_take (i := 2) (v := ?v52) rfl (by kernel_rfl) (by kernel_rfl) (by kernel_rfl) (fun _ _ _ h => h) (Or.inl ⟨by kernel_rfl, ?h52⟩) hHeld ?_
            case h52 => intro u hSw; (obtain ⟨-, c0, c1, -, -⟩ := hSw.1; obtain ⟨f0, f1, f2, f3, f4, f5, f6⟩ := hSw.2.1; obtain ⟨r0, r1, r2, r3⟩ := hSw.2.2.1; have pc := hSw.2.2.2; dsimp only at f0 f1 f2 f3 f4 f5 f6 r0 r1 r2 r3); clear hSw; go_simp; try with_reducible rfl
            try simp only [List.getElem_toArray]
            try simp only [List.getElem_cons_succ]
            try simp only [List.getElem_cons_zero]
            try simp only [Act.put]
            try simp only [List.setIfInBounds_toArray]
            try simp only [List.set]
            refine wpAnyH_take (i := 3) (v := ?v53) rfl (by kernel_rfl) (by kernel_rfl) (by kernel_rfl) (fun _ _ _ h => h) (Or.inl ⟨by kernel_rfl, ?h53⟩) hHeld ?_
            case h53 => intro u hSw; (obtain ⟨-, c0, c1, -, -⟩ := hSw.1; obtain ⟨f0, f1, f2, f3, f4, f5, f6⟩ := hSw.2.1; obtain ⟨r0, r1, r2, r3⟩ := hSw.2.2.1; have pc := hSw.2.2.2; dsimp only at f0 f1 f2 f3 f4 f5 f6 r0 r1 r2 r3); clear hSw; go_simp; try with_reducible rfl
            try simp only [List.getElem_toArray]
            try simp only [List.getElem_cons_succ]
            try simp only [List.getElem_cons_zero]
            try simp only [Act.put]
            try simp only [List.setIfInBounds_toArray]
            try simp only [List.set]
            refine wpAnyH_take (i := 4) (v := ?v54) rfl (by kernel_rfl) (by kernel_rfl) (by kernel_rfl) (fun _ _ _ h => h) (Or.inl ⟨by kernel_rfl, ?h54⟩) hHeld ?_
            case h54 => intro u hSw; (obtain ⟨-, c0, c1, -, -⟩ := hSw.1; obtain ⟨f0, f1, f2, f3, f4, f5, f6⟩ := hSw.2.1; obtain ⟨r0, r1, r2, r3⟩ := hSw.2.2.1; have pc := hSw.2.2.2; dsimp only at f0 f1 f2 f3 f4 f5 f6 r0 r1 r2 r3); clear hSw; go_simp; try with_reducible rfl
            try simp only [List.getElem_toArray]
            try simp only [List.getElem_cons_succ]
            try simp only [List.getElem_cons_zero]
            try simp only [Act.put]
            try simp only [List.setIfInBounds_toArray]
            try simp only [List.set]
            refine wpAnyH_take (i := 6) (v := ?v55) rfl (by kernel_rfl) (by kernel_rfl) (by kernel_rfl) (fun _ _ _ h => h) (Or.inl ⟨by kernel_rfl, ?h55⟩) hHeld ?_
            case h55 => intro u hSw; (obtain ⟨-, c0, c1, -, -⟩ := hSw.1; obtain ⟨f0, f1, f2, f3, f4, f5, f6⟩ := hSw.2.1; obtain ⟨r0, r1, r2, r3⟩ := hSw.2.2.1; have pc := hSw.2.2.2; dsimp only at f0 f1 f2 f3 f4 f5 f6 r0 r1 r2 r3); clear hSw; go_simp; try with_reducible rfl
            try simp only [List.getElem_toArray]
            try simp only [List.getElem_cons_succ]
            try simp only [List.getElem_cons_zero]
            try simp only [Act.put]
            try simp only [List.setIfInBounds_toArray]
            try simp only [List.set]
            refine wpAnyH_take (i := 8) (v := ?v56) rfl (by kernel_rfl) (by kernel_rfl) (by kernel_rfl) (fun _ _ _ h => h) (Or.inl ⟨by kernel_rfl, ?h56⟩) hHeld ?_
            case h56 => intro u hSw; (obtain ⟨-, c0, c1, -, -⟩ := hSw.1; obtain ⟨f0, f1, f2, f3, f4, f5, f6⟩ := hSw.2.1; obtain ⟨r0, r1, r2, r3⟩ := hSw.2.2.1; have pc := hSw.2.2.2; dsimp only at f0 f1 f2 f3 f4 f5 f6 r0 r1 r2 r3); clear hSw; go_simp; try with_reducible rfl
            try simp only [List.getElem_toArray]
            try simp only [List.getElem_cons_succ]
            try simp only [List.getElem_cons_zero]
            try simp only [Act.put]
            try simp only [List.setIfInBounds_toArray]
            try simp only [List.set]
            refine wpAnyH_take (i := 5) (v := ?v57) rfl (by kernel_rfl) (by kernel_rfl) (by kernel_rfl) (fun _ _ _ h => h) (Or.inl ⟨by kernel_rfl, ?h57⟩) hHeld ?_
            case h57 => intro u hSw; (obtain ⟨-, c0, c1, -, -⟩ := hSw.1; obtain ⟨f0, f1, f2, f3, f4, f5, f6⟩ := hSw.2.1; obtain ⟨r0, r1, r2, r3⟩ := hSw.2.2.1; have pc := hSw.2.2.2; dsimp only at f0 f1 f2 f3 f4 f5 f6 r0 r1 r2 r3); clear hSw; go_simp; try with_reducible rfl
            try simp only [List.getElem_toArray]
            try simp only [List.getElem_cons_succ]
            try simp only [List.getElem_cons_zero]
            try simp only [Act.put]
            try simp only [List.setIfInBounds_toArray]
            try simp only [List.set]
            refine wpAnyH_take (i := 7) (v := ?v58) rfl (by kernel_rfl) (by kernel_rfl) (by kernel_rfl) (fun _ _ _ h => h) (Or.inl ⟨by kernel_rfl, ?h58⟩) hHeld ?_
            case h58 => intro u hSw; (obtain ⟨-, c0, c1, -, -⟩ := hSw.1; obtain ⟨f0, f1, f2, f3, f4, f5, f6⟩ := hSw.2.1; obtain ⟨r0, r1, r2, r3⟩ := hSw.2.2.1; have pc := hSw.2.2.2; dsimp only at f0 f1 f2 f3 f4 f5 f6 r0 r1 r2 r3); clear hSw; go_simp; try with_reducible rfl
            try simp only [List.getElem_toArray]
            try simp only [List.getElem_cons_succ]
            try simp only [List.getElem_cons_zero]
            try simp only [Act.put]
            try simp only [List.setIfInBounds_toArray]
            try simp only [List.set]
            refine wpAnyH_take (i := 9) (v := ?v59) rfl (by kernel_rfl) (by kernel_rfl) (by kernel_rfl) (fun _ _ _ h => h) (Or.inl ⟨by kernel_rfl, ?h59⟩) hHeld ?_
            case h59 => intro u hSw; (obtain ⟨-, c0, c1, -, -⟩ := hSw.1; obtain ⟨f0, f1, f2, f3, f4, f5, f6⟩ := hSw.2.1; obtain ⟨r0, r1, r2, r3⟩ := hSw.2.2.1; have pc := hSw.2.2.2; dsimp only at f0 f1 f2 f3 f4 f5 f6 r0 r1 r2 r3); clear hSw; go_simp; try with_reducible rfl
            try simp only [List.getElem_toArray]
            try simp only [List.getElem_cons_succ]
            try simp only [List.getElem_cons_zero]
            try simp only [Act.put]
            try simp only [List.setIfInBounds_toArray]
            try simp only [List.set]
            refine wpAnyH_take (i := 10) (v := ?v60) rfl (by kernel_rfl) (by kernel_rfl) (by kernel_rfl) (fun _ _ _ h => h) (Or.inl ⟨by kernel_rfl, ?h60⟩) hHeld ?_
            case h60 => intro u hSw; (obtain ⟨-, c0, c1, -, -⟩ := hSw.1; obtain ⟨f0, f1, f2, f3, f4, f5, f6⟩ := hSw.2.1; obtain ⟨r0, r1, r2, r3⟩ := hSw.2.2.1; have pc := hSw.2.2.2; dsimp only at f0 f1 f2 f3 f4 f5 f6 r0 r1 r2 r3); clear hSw; go_simp; try with_reducible rfl
            try simp only [List.getElem_toArray]
            try simp only [List.getElem_cons_succ]
            try simp only [List.getElem_cons_zero]
            try simp only [Act.put]
            try simp only [List.setIfInBounds_toArray]
            try simp only [List.set]
            refine wpAnyH_take (i := 11) (v := ?v61) rfl (by kernel_rfl) (by kernel_rfl) (by kernel_rfl) (fun _ _ _ h => h) (Or.inl ⟨by kernel_rfl, ?h61⟩) hHeld ?_
            case h61 => intro u hSw; (obtain ⟨-, c0, c1, -, -⟩ := hSw.1; obtain ⟨f0, f1, f2, f3, f4, f5, f6⟩ := hSw.2.1; obtain ⟨r0, r1, r2, r3⟩ := hSw.2.2.1; have pc := hSw.2.2.2; dsimp only at f0 f1 f2 f3 f4 f5 f6 r0 r1 r2 r3); clear hSw; go_simp; try with_reducible rfl
            try simp only [List.getElem_toArray]
            try simp only [List.getElem_cons_succ]
            try simp only [List.getElem_cons_zero]
            try simp only [Act.put]
            try simp only [List.setIfInBounds_toArray]
            try simp only [List.set]
            refine wpAnyH_take (i := 12) (v := ?v62) rfl (by kernel_rfl) (by kernel_rfl) (by kernel_rfl) (fun _ _ _ h => h) (Or.inl ⟨by kernel_rfl, ?h62⟩) hHeld ?_
            case h62 => intro u hSw; (obtain ⟨-, c0, c1, -, -⟩ := hSw.1; obtain ⟨f0, f1, f2, f3, f4, f5, f6⟩ := hSw.2.1; obtain ⟨r0, r1, r2, r3⟩ := hSw.2.2.1; have pc := hSw.2.2.2; dsimp only at f0 f1 f2 f3 f4 f5 f6 r0 r1 r2 r3); clear hSw; go_simp; try with_reducible rfl
            try simp only [List.getElem_toArray]
            try simp only [List.getElem_cons_succ]
            try simp only [List.getElem_cons_zero]
            try simp only [Act.put]
            try simp only [List.setIfInBounds_toArray]
            try simp only [List.set]
            refine wpAnyH_take (i := 13) (v := ?v63) rfl (by kernel_rfl) (by kernel_rfl) (by kernel_rfl) (fun _ _ _ h => h) (Or.inl ⟨by kernel_rfl, ?h63⟩) hHeld ?_
            case h63 => intro u hSw; (obtain ⟨-, c0, c1, -, -⟩ := hSw.1; obtain ⟨f0, f1, f2, f3, f4, f5, f6⟩ := hSw.2.1; obtain ⟨r0, r1, r2, r3⟩ := hSw.2.2.1; have pc := hSw.2.2.2; dsimp only at f0 f1 f2 f3 f4 f5 f6 r0 r1 r2 r3); clear hSw; go_simp; try with_reducible rfl
            try simp only [List.getElem_toArray]
            try simp only [List.getElem_cons_succ]
            try simp only [List.getElem_cons_zero]
            try simp only [Act.put]
            try simp only [List.setIfInBounds_toArray]
            try simp only [List.set]
            refine wpAnyH_take (i := 14) (v := ?v64) rfl (by kernel_rfl) (by kernel_rfl) (by kernel_rfl) (fun _ _ _ h => h) (Or.inl ⟨by kernel_rfl, ?h64⟩) hHeld ?_
            case h64 => intro u hSw; (obtain ⟨-, c0, c1, -, -⟩ := hSw.1; obtain ⟨f0, f1, f2, f3, f4, f5, f6⟩ := hSw.2.1; obtain ⟨r0, r1, r2, r3⟩ := hSw.2.2.1; have pc := hSw.2.2.2; dsimp only at f0 f1 f2 f3 f4 f5 f6 r0 r1 r2 r3); clear hSw; go_simp; try with_reducible rfl
            try simp only [List.getElem_toArray]
            try simp only [List.getElem_cons_succ]
            try simp only [List.getElem_cons_zero]
            try simp only [Act.put]
            try simp only [List.setIfInBounds_toArray]
            try simp only [List.set]
            refine wpAnyH_take (i := 15) (v := ?v65) rfl (by kernel_rfl) (by kernel_rfl) (by kernel_rfl) (fun _ _ _ h => h) (Or.inl ⟨by kernel_rfl, ?h65⟩) hHeld ?_
            case h65 => intro u hSw; (obtain ⟨-, c0, c1, -, -⟩ := hSw.1; obtain ⟨f0, f1, f2, f3, f4, f5, f6⟩ := hSw.2.1; obtain ⟨r0, r1, r2, r3⟩ := hSw.2.2.1; have pc := hSw.2.2.2; dsimp only at f0 f1 f2 f3 f4 f5 f6 r0 r1 r2 r3); clear hSw; go_simp; try with_reducible rfl
            try simp only [List.getElem_toArray]
            try simp only [List.getElem_cons_succ]
            try simp only [List.getElem_cons_zero]
            try simp only [Act.put]
            try simp only [List.setIfInBounds_toArray]
            try simp only [List.set]
            refine wpAnyH_take (i := 16) (v := ?v66) rfl (by kernel_rfl) (by kernel_rfl) (by kernel_rfl) (fun _ _ _ h => h) (Or.inl ⟨by kernel_rfl, ?h66⟩) hHeld ?_
            case h66 => intro u hSw; (obtain ⟨-, c0, c1, -, -⟩ := hSw.1; obtain ⟨f0, f1, f2, f3, f4, f5, f6⟩ := hSw.2.1; obtain ⟨r0, r1, r2, r3⟩ := hSw.2.2.1; have pc := hSw.2.2.2; dsimp only at f0 f1 f2 f3 f4 f5 f6 r0 r1 r2 r3); clear hSw; go_simp; try with_reducible rfl
            try simp only [List.getElem_toArray]
            try simp only [List.getElem_cons_succ]
            try simp only [List.getElem_cons_zero]
            try simp only [Act.put]
            try simp only [List.setIfInBounds_toArray]
            try simp only [List.set]
            refine wpAnyH_take (i := 17) (v := ?v67) rfl (by kernel_rfl) (by kernel_rfl) (by kernel_rfl) (fun _ _ _ h => h) (Or.inl ⟨by kernel_rfl, ?h67⟩) hHeld ?_
            case h67 => intro u hSw; (obtain ⟨-, c0, c1, -, -⟩ := hSw.1; obtain ⟨f0, f1, f2, f3, f4, f5, f6⟩ := hSw.2.1; obtain ⟨r0, r1, r2, r3⟩ := hSw.2.2.1; have pc := hSw.2.2.2; dsimp only at f0 f1 f2 f3 f4 f5 f6 r0 r1 r2 r3); clear hSw; go_simp; try with_reducible rfl
            try simp only [List.getElem_toArray]
            try simp only [List.getElem_cons_succ]
            try simp only [List.getElem_cons_zero]
            try simp only [Act.put]
            try simp only [List.setIfInBounds_toArray]
            try simp only [List.set]
            refine wpAnyH_take (i := 18) (v := ?v68) rfl (by kernel_rfl) (by kernel_rfl) (by kernel_rfl) (fun _ _ _ h => h) (Or.inl ⟨by kernel_rfl, ?h68⟩) hHeld ?_
            case h68 => intro u hSw; (obtain ⟨-, c0, c1, -, -⟩ := hSw.1; obtain ⟨f0, f1, f2, f3, f4, f5, f6⟩ := hSw.2.1; obtain ⟨r0, r1, r2, r3⟩ := hSw.2.2.1; have pc := hSw.2.2.2; dsimp only at f0 f1 f2 f3 f4 f5 f6 r0 r1 r2 r3); clear hSw; go_simp; try with_reducible rfl
            try simp only [List.getElem_toArray]
            try simp only [List.getElem_cons_succ]
            try simp only [List.getElem_cons_zero]
            try simp only [Act.put]
            try simp only [List.setIfInBounds_toArray]
            try simp only [List.set]
            refine wpAnyH_take (i := 19) (v := ?v69) rfl (by kernel_rfl) (by kernel_rfl) (by kernel_rfl) (fun _ _ _ h => h) (Or.inl ⟨by kernel_rfl, ?h69⟩) hHeld ?_
            case h69 => intro u hSw; (obtain ⟨-, c0, c1, -, -⟩ := hSw.1; obtain ⟨f0, f1, f2, f3, f4, f5, f6⟩ := hSw.2.1; obtain ⟨r0, r1, r2, r3⟩ := hSw.2.2.1; have pc := hSw.2.2.2; dsimp only at f0 f1 f2 f3 f4 f5 f6 r0 r1 r2 r3); clear hSw; go_simp; try with_reducible rfl
            try simp only [List.getElem_toArray]
            try simp only [List.getElem_cons_succ]
            try simp only [List.getElem_cons_zero]
            try simp only [Act.put]
            try simp only [List.setIfInBounds_toArray]
            try simp only [List.set]
            refine wpAnyH_take (i := 21) (v := ?v70) rfl (by kernel_rfl) (by kernel_rfl) (by kernel_rfl) (fun _ _ _ h => h) (Or.inl ⟨by kernel_rfl, ?h70⟩) hHeld ?_
            case h70 => intro u hSw; (obtain ⟨-, c0, c1, -, -⟩ := hSw.1; obtain ⟨f0, f1, f2, f3, f4, f5, f6⟩ := hSw.2.1; obtain ⟨r0, r1, r2, r3⟩ := hSw.2.2.1; have pc := hSw.2.2.2; dsimp only at f0 f1 f2 f3 f4 f5 f6 r0 r1 r2 r3); clear hSw; go_simp; try with_reducible rfl
            try simp only [List.getElem_toArray]
            try simp only [List.getElem_cons_succ]
            try simp only [List.getElem_cons_zero]
            try simp only [Act.put]
            try simp only [List.setIfInBounds_toArray]
            try simp only [List.set]
            refine wpAnyH_take (i := 20) (v := ?v71) rfl (by kernel_rfl) (by kernel_rfl) (by kernel_rfl) (fun _ _ _ h => h) (Or.inl ⟨by kernel_rfl, ?h71⟩) hHeld ?_
            case h71 => intro u hSw; (obtain ⟨-, c0, c1, -, -⟩ := hSw.1; obtain ⟨f0, f1, f2, f3, f4, f5, f6⟩ := hSw.2.1; obtain ⟨r0, r1, r2, r3⟩ := hSw.2.2.1; have pc := hSw.2.2.2; dsimp only at f0 f1 f2 f3 f4 f5 f6 r0 r1 r2 r3); clear hSw; go_simp; try with_reducible rfl
            try simp only [List.getElem_toArray]
            try simp only [List.getElem_cons_succ]
            try simp only [List.getElem_cons_zero]
            try simp only [Act.put]
            try simp only [List.setIfInBounds_toArray]
            try simp only [List.set]
            refine wpAnyH_take (i := 22) (v := ?v72) rfl (by kernel_rfl) (by kernel_rfl) (by kernel_rfl) (fun _ _ _ h => h) (Or.inl ⟨by kernel_rfl, ?h72⟩) hHeld ?_
            case h72 => intro u hSw; (obtain ⟨-, c0, c1, -, -⟩ := hSw.1; obtain ⟨f0, f1, f2, f3, f4, f5, f6⟩ := hSw.2.1; obtain ⟨r0, r1, r2, r3⟩ := hSw.2.2.1; have pc := hSw.2.2.2; dsimp only at f0 f1 f2 f3 f4 f5 f6 r0 r1 r2 r3); clear hSw; go_simp; try with_reducible rfl
            try simp only [List.getElem_toArray]
            try simp only [List.getElem_cons_succ]
            try simp only [List.getElem_cons_zero]
            try simp only [Act.put]
            try simp only [List.setIfInBounds_toArray]
            try simp only [List.set]
            refine wpAnyH_take (i := 23) (v := ?v73) rfl (by kernel_rfl) (by kernel_rfl) (by kernel_rfl) (fun _ _ _ h => h) (Or.inl ⟨by kernel_rfl, ?h73⟩) hHeld ?_
            case h73 => intro u hSw; (obtain ⟨-, c0, c1, -, -⟩ := hSw.1; obtain ⟨f0, f1, f2, f3, f4, f5, f6⟩ := hSw.2.1; obtain ⟨r0, r1, r2, r3⟩ := hSw.2.2.1; have pc := hSw.2.2.2; dsimp only at f0 f1 f2 f3 f4 f5 f6 r0 r1 r2 r3); clear hSw; go_simp; try with_reducible rfl
            try simp only [List.getElem_toArray]
            try simp only [List.getElem_cons_succ]
            try simp only [List.getElem_cons_zero]
            try simp only [Act.put]
            try simp only [List.setIfInBounds_toArray]
            try simp only [List.set]
            refine wpAnyH_take (i := 24) (v := ?v74) rfl (by kernel_rfl) (by kernel_rfl) (by kernel_rfl) (fun _ _ _ h => h) (Or.inl ⟨by kernel_rfl, ?h74⟩) hHeld ?_
            case h74 => intro u hSw; (obtain ⟨-, c0, c1, -, -⟩ := hSw.1; obtain ⟨f0, f1, f2, f3, f4, f5, f6⟩ := hSw.2.1; obtain ⟨r0, r1, r2, r3⟩ := hSw.2.2.1; have pc := hSw.2.2.2; dsimp only at f0 f1 f2 f3 f4 f5 f6 r0 r1 r2 r3); clear hSw; go_simp; try with_reducible rfl
            try simp only [List.getElem_toArray]
            try simp only [List.getElem_cons_succ]
            try simp only [List.getElem_cons_zero]
            try simp only [Act.put]
            try simp only [List.setIfInBounds_toArray]
            try simp only [List.set]
            refine wpAnyH_take (i := 25) (v := ?v75) rfl (by kernel_rfl) (by kernel_rfl) (by kernel_rfl) (fun _ _ _ h => h) (Or.inl ⟨by kernel_rfl, ?h75⟩) hHeld ?_
            case h75 => intro u hSw; (obtain ⟨-, c0, c1, -, -⟩ := hSw.1; obtain ⟨f0, f1, f2, f3, f4, f5, f6⟩ := hSw.2.1; obtain ⟨r0, r1, r2, r3⟩ := hSw.2.2.1; have pc := hSw.2.2.2; dsimp only at f0 f1 f2 f3 f4 f5 f6 r0 r1 r2 r3); clear hSw; go_simp; try with_reducible rfl
            try simp only [List.getElem_toArray]
            try simp only [List.getElem_cons_succ]
            try simp only [List.getElem_cons_zero]
            try simp only [Act.put]
            try simp only [List.setIfInBounds_toArray]
            try simp only [List.set]
            refine wpAnyH_take (i := 26) (v := ?v76) rfl (by kernel_rfl) (by kernel_rfl) (by kernel_rfl) (fun _ _ _ h => h) (Or.inl ⟨by kernel_rfl, ?h76⟩) hHeld ?_
            case h76 => intro u hSw; (obtain ⟨-, c0, c1, -, -⟩ := hSw.1; obtain ⟨f0, f1, f2, f3, f4, f5, f6⟩ := hSw.2.1; obtain ⟨r0, r1, r2, r3⟩ := hSw.2.2.1; have pc := hSw.2.2.2; dsimp only at f0 f1 f2 f3 f4 f5 f6 r0 r1 r2 r3); clear hSw; go_simp; try with_reducible rfl
            try simp only [List.getElem_toArray]
            try simp only [List.getElem_cons_succ]
            try simp only [List.getElem_cons_zero]
            try simp only [Act.put]
            try simp only [List.setIfInBounds_toArray]
            try simp only [List.set]
            refine wpAnyH_take (i := 27) (v := ?v77) rfl (by kernel_rfl) (by kernel_rfl) (by kernel_rfl) (fun _ _ _ h => h) (Or.inl ⟨by kernel_rfl, ?h77⟩) hHeld ?_
            case h77 => intro u hSw; (obtain ⟨-, c0, c1, -, -⟩ := hSw.1; obtain ⟨f0, f1, f2, f3, f4, f5, f6⟩ := hSw.2.1; obtain ⟨r0, r1, r2, r3⟩ := hSw.2.2.1; have pc := hSw.2.2.2; dsimp only at f0 f1 f2 f3 f4 f5 f6 r0 r1 r2 r3); clear hSw; go_simp; try with_reducible rfl
            try simp only [List.getElem_toArray]
            try simp only [List.getElem_cons_succ]
            try simp only [List.getElem_cons_zero]
            try simp only [Act.put]
            try simp only [List.setIfInBounds_toArray]
            try simp only [List.set]
            refine wpAnyH_take (i := 31) (v := ?v78) rfl (by kernel_rfl) (by kernel_rfl) (by kernel_rfl) (fun _ _ _ h => h) (Or.inl ⟨by kernel_rfl, ?h78⟩) hHeld ?_
            case h78 => intro u hSw; (obtain ⟨-, c0, c1, -, -⟩ := hSw.1; obtain ⟨f0, f1, f2, f3, f4, f5, f6⟩ := hSw.2.1; obtain ⟨r0, r1, r2, r3⟩ := hSw.2.2.1; have pc := hSw.2.2.2; dsimp only at f0 f1 f2 f3 f4 f5 f6 r0 r1 r2 r3); clear hSw; go_simp; try with_reducible rfl
            try simp only [List.getElem_toArray]
            try simp only [List.getElem_cons_succ]
            try simp only [List.getElem_cons_zero]
            try simp only [Act.put]
            try simp only [List.setIfInBounds_toArray]
            try simp only [List.set]
            refine wpAnyH_take (i := 28) (v := ?v79) rfl (by kernel_rfl) (by kernel_rfl) (by kernel_rfl) (fun _ _ _ h => h) (Or.inl ⟨by kernel_rfl, ?h79⟩) hHeld ?_
            case h79 => intro u hSw; (obtain ⟨-, c0, c1, -, -⟩ := hSw.1; obtain ⟨f0, f1, f2, f3, f4, f5, f6⟩ := hSw.2.1; obtain ⟨r0, r1, r2, r3⟩ := hSw.2.2.1; have pc := hSw.2.2.2; dsimp only at f0 f1 f2 f3 f4 f5 f6 r0 r1 r2 r3); clear hSw; go_simp; try with_reducible rfl
            try simp only [List.getElem_toArray]
            try simp only [List.getElem_cons_succ]
            try simp only [List.getElem_cons_zero]
            try simp only [Act.put]
            try simp only [List.setIfInBounds_toArray]
            try simp only [List.set]
            refine wpAnyH_take (i := 32) (v := ?v80) rfl (by kernel_rfl) (by kernel_rfl) (by kernel_rfl) (fun _ _ _ h => h) (Or.inl ⟨by kernel_rfl, ?h80⟩) hHeld ?_
            case h80 => intro u hSw; (obtain ⟨-, c0, c1, -, -⟩ := hSw.1; obtain ⟨f0, f1, f2, f3, f4, f5, f6⟩ := hSw.2.1; obtain ⟨r0, r1, r2, r3⟩ := hSw.2.2.1; have pc := hSw.2.2.2; dsimp only at f0 f1 f2 f3 f4 f5 f6 r0 r1 r2 r3); clear hSw; go_simp; try with_reducible rfl
            try simp only [List.getElem_toArray]
            try simp only [List.getElem_cons_succ]
            try simp only [List.getElem_cons_zero]
            try simp only [Act.put]
            try simp only [List.setIfInBounds_toArray]
            try simp only [List.set]
            refine wpAnyH_take (i := 29) (v := ?v81) rfl (by kernel_rfl) (by kernel_rfl) (by kernel_rfl) (fun _ _ _ h => h) (Or.inl ⟨by kernel_rfl, ?h81⟩) hHeld ?_
            case h81 => intro u hSw; (obtain ⟨-, c0, c1, -, -⟩ := hSw.1; obtain ⟨f0, f1, f2, f3, f4, f5, f6⟩ := hSw.2.1; obtain ⟨r0, r1, r2, r3⟩ := hSw.2.2.1; have pc := hSw.2.2.2; dsimp only at f0 f1 f2 f3 f4 f5 f6 r0 r1 r2 r3); clear hSw; go_simp; try with_reducible rfl
            try simp only [List.getElem_toArray]
            try simp only [List.getElem_cons_succ]
            try simp only [List.getElem_cons_zero]
            try simp only [Act.put]
            try simp only [List.setIfInBounds_toArray]
            try simp only [List.set]
            refine wpAnyH_take (i := 30) (v := ?v82) rfl (by kernel_rfl) (by kernel_rfl) (by kernel_rfl) (fun _ _ _ h => h) (Or.inl ⟨by kernel_rfl, ?h82⟩) hHeld ?_
            case h82 => intro u hSw; (obtain ⟨-, c0, c1, -, -⟩ := hSw.1; obtain ⟨f0, f1, f2, f3, f4, f5, f6⟩ := hSw.2.1; obtain ⟨r0, r1, r2, r3⟩ := hSw.2.2.1; have pc := hSw.2.2.2; dsimp only at f0 f1 f2 f3 f4 f5 f6 r0 r1 r2 r3); clear hSw; go_simp; try with_reducible rfl
            try simp only [List.getElem_toArray]
            try simp only [List.getElem_cons_succ]
            try simp only [List.getElem_cons_zero]
            try simp only [Act.put]
            try simp only [List.setIfInBounds_toArray]
            try simp only [List.set]
            refine wpAnyH_ready (rs := [33]) (by kernel_rfl) (by simp) ?_
            refine AllReadyH.cons rfl (fun K hK => ?_) AllReadyH.nil
            go_simp
            go_wp2_with (go_at_call 10; refine (implSlotIn_any xa zi zn xc k _ hzn HPz.out.1 hxc hHX (HPz.out.2) hkw).mono ?_; rintro e E1 ⟨sa, sd, rfl, gb, -⟩; rw [HSl.out])
            refine hK.out _ _ (⟨hHeld.1.up gb, hHeld.2.1.below gb hHeld.2.1.lt, hHeld.2.2.1.below gb (World.block_lt_of_cell? _ _ hHeld.2.2.1.c0), (gb.cell (World.block_lt_of_cell? _ _ hHeld.2.2.2)).trans hHeld.2.2.2⟩) (fun hHeld => ?_)
            clear hK K
            clear gb
            try simp only [Act.put]
            try simp only [List.setIfInBounds_toArray]
            try simp only [List.set]
            refine wpAnyH_take (i := 34) (v := ?v83) rfl (by kernel_rfl) (by kernel_rfl) (by kernel_rfl) (fun _ _ _ h => h) (Or.inl ⟨by kernel_rfl, ?h83⟩) hHeld ?_
            case h83 => intro u hSw; (obtain ⟨-, c0, c1, -, -⟩ := hSw.1; obtain ⟨f0, f1, f2, f3, f4, f5, f6⟩ := hSw.2.1; obtain ⟨r0, r1, r2, r3⟩ := hSw.2.2.1; have pc := hSw.2.2.2; dsimp only at f0 f1 f2 f3 f4 f5 f6 r0 r1 r2 r3); clear hSw; go_simp; try with_reducible rfl
            try simp only [List.getElem_toArray]
            try simp only [List.getElem_cons_succ]
            try simp only [List.getElem_cons_zero]
            try simp only [Act.put]
            try simp only [List.setIfInBounds_toArray]
            try simp only [List.set]
            refine wpAnyH_take (i := 35) (v := ?v84) rfl (by kernel_rfl) (by kernel_rfl) (by kernel_rfl) (fun _ _ _ h => h) (Or.inl ⟨by kernel_rfl, ?h84⟩) hHeld ?_
            case h84 => intro u hSw; (obtain ⟨-, c0, c1, -, -⟩ := hSw.1; obtain ⟨f0, f1, f2, f3, f4, f5, f6⟩ := hSw.2.1; obtain ⟨r0, r1, r2, r3⟩ := hSw.2.2.1; have pc := hSw.2.2.2; dsimp only at f0 f1 f2 f3 f4 f5 f6 r0 r1 r2 r3); clear hSw; go_simp; try with_reducible rfl
            try simp only [List.getElem_toArray]
            try simp only [List.getElem_cons_succ]
            try simp only [List.getElem_cons_zero]
            try simp only [Act.put]
            try simp only [List.setIfInBounds_toArray]
            try simp only [List.set]
            refine wpAnyH_take (i := 36) (v := ?v85) rfl (by kernel_rfl) (by kernel_rfl) (by kernel_rfl) (fun _ _ _ h => h) (Or.inl ⟨by kernel_rfl, ?h85⟩) hHeld ?_
            case h85 => intro u hSw; (obtain ⟨-, c0, c1, -, -⟩ := hSw.1; obtain ⟨f0, f1, f2, f3, f4, f5, f6⟩ := hSw.2.1; obtain ⟨r0, r1, r2, r3⟩ := hSw.2.2.1; have pc := hSw.2.2.2; dsimp only at f0 f1 f2 f3 f4 f5 f6 r0 r1 r2 r3); clear hSw; go_simp; try with_reducible rfl
            try simp only [List.getElem_toArray]
            try simp only [List.getElem_cons_succ]
            try simp only [List.getElem_cons_zero]
            try simp only [Act.put]
            try simp only [List.setIfInBounds_toArray]
            try simp only [List.set]
            refine wpAnyH_done (by kernel_rfl) ?_ _
            go_wp2_with fail
            go_roundw
            case rel => exact ⟨j + 1, by omega, by go_num, hHeld.1⟩
            case measure => simp [intOf]; omega
          · refine wp_region_held_drew (S := fun V => VwS w pg ps rb 0 (some ⟨rb', ro, none⟩) rn rc rs V ∧ PlC V fb 0 ⟨0, (1 : Nat), k, ⟨xt, xk, xv, xs⟩⟩ ∧ RowC V rb' (ro + j * 4) ⟨xt, xk, xv, xs⟩ ∧ V.cell? ⟨pg, 1, none⟩ = some (.slice xa zn xc)) (by kernel_rfl) ⟨V.drew, F.below (Below.refl _ _).drew F.lt, X.below (Below.refl _ _).drew (World.block_lt_of_cell? _ _ X.c0), pc⟩ (fun hHeld => ?_)
            have hHX := HHX.out
            generalize wc.drew = D at hHeld hHX ⊢
            clear V F X pc HHX hHX0
            refine wpAnyH_take (i := 0) (v := ?v86) rfl (by kernel_rfl) (by kernel_rfl) (by kernel_rfl) (fun _ _ _ h => h) (Or.inl ⟨by kernel_rfl, ?h86⟩) hHeld ?_
            case h86 => intro u hSw; (obtain ⟨-, c0, c1, -, -⟩ := hSw.1; obtain ⟨f0, f1, f2, f3, f4, f5, f6⟩ := hSw.2.1; obtain ⟨r0, r1, r2, r3⟩ := hSw.2.2.1; have pc := hSw.2.2.2; dsimp only at f0 f1 f2 f3 f4 f5 f6 r0 r1 r2 r3); clear hSw; go_simp; try with_reducible rfl
            try simp only [List.getElem_toArray]
            try simp only [List.getElem_cons_succ]
            try simp only [List.getElem_cons_zero]
            try simp only [Act.put]
            try simp only [List.setIfInBounds_toArray]
            try simp only [List.set]
            refine wpAnyH_take (i := 1) (v := ?v87) rfl (by kernel_rfl) (by kernel_rfl) (by kernel_rfl) (fun _ _ _ h => h) (Or.inl ⟨by kernel_rfl, ?h87⟩) hHeld ?_
            case h87 => intro u hSw; (obtain ⟨-, c0, c1, -, -⟩ := hSw.1; obtain ⟨f0, f1, f2, f3, f4, f5, f6⟩ := hSw.2.1; obtain ⟨r0, r1, r2, r3⟩ := hSw.2.2.1; have pc := hSw.2.2.2; dsimp only at f0 f1 f2 f3 f4 f5 f6 r0 r1 r2 r3); clear hSw; go_simp; try with_reducible rfl
            try simp only [List.getElem_toArray]
            try simp only [List.getElem_cons_succ]
            try simp only [List.getElem_cons_zero]
            try simp only [Act.put]
            try simp only [List.setIfInBounds_toArray]
            try simp only [List.set]
            refine wpAnyH_take (i := 2) (v := ?v88) rfl (by kernel_rfl) (by kernel_rfl) (by kernel_rfl) (fun _ _ _ h => h) (Or.inl ⟨by kernel_rfl, ?h88⟩) hHeld ?_
            case h88 => intro u hSw; (obtain ⟨-, c0, c1, -, -⟩ := hSw.1; obtain ⟨f0, f1, f2, f3, f4, f5, f6⟩ := hSw.2.1; obtain ⟨r0, r1, r2, r3⟩ := hSw.2.2.1; have pc := hSw.2.2.2; dsimp only at f0 f1 f2 f3 f4 f5 f6 r0 r1 r2 r3); clear hSw; go_simp; try with_reducible rfl
            try simp only [List.getElem_toArray]
            try simp only [List.getElem_cons_succ]
            try simp only [List.getElem_cons_zero]
            try simp only [Act.put]
            try simp only [List.setIfInBounds_toArray]
            try simp only [List.set]
            refine wpAnyH_take (i := 3) (v := ?v89) rfl (by kernel_rfl) (by kernel_rfl) (by kernel_rfl) (fun _ _ _ h => h) (Or.inl ⟨by kernel_rfl, ?h89⟩) hHeld ?_
            case h89 => intro u hSw; (obtain ⟨-, c0, c1, -, -⟩ := hSw.1; obtain ⟨f0, f1, f2, f3, f4, f5, f6⟩ := hSw.2.1; obtain ⟨r0, r1, r2, r3⟩ := hSw.2.2.1; have pc := hSw.2.2.2; dsimp only at f0 f1 f2 f3 f4 f5 f6 r0 r1 r2 r3); clear hSw; go_simp; try with_reducible rfl
            try simp only [List.getElem_toArray]
            try simp only [List.getElem_cons_succ]
            try simp only [List.getElem_cons_zero]
            try simp only [Act.put]
            try simp only [List.setIfInBounds_toArray]
            try simp only [List.set]
            refine wpAnyH_take (i := 4) (v := ?v90) rfl (by kernel_rfl) (by kernel_rfl) (by kernel_rfl) (fun _ _ _ h => h) (Or.inl ⟨by kernel_rfl, ?h90⟩) hHeld ?_
            case h90 => intro u hSw; (obtain ⟨-, c0, c1, -, -⟩ := hSw.1; obtain ⟨f0, f1, f2, f3, f4, f5, f6⟩ := hSw.2.1; obtain ⟨r0, r1, r2, r3⟩ := hSw.2.2.1; have pc := hSw.2.2.2; dsimp only at f0 f1 f2 f3 f4 f5 f6 r0 r1 r2 r3); clear hSw; go_simp; try with_reducible rfl
            try simp only [List.getElem_toArray]
            try simp only [List.getElem_cons_succ]
            try simp only [List.getElem_cons_zero]
            try simp only [Act.put]
            try simp only [List.setIfInBounds_toArray]
            try simp only [List.set]
            refine wpAnyH_take (i := 6) (v := ?v91) rfl (by kernel_rfl) (by kernel_rfl) (by kernel_rfl) (fun _ _ _ h => h) (Or.inl ⟨by kernel_rfl, ?h91⟩) hHeld ?_
            case h91 => intro u hSw; (obtain ⟨-, c0, c1, -, -⟩ := hSw.1; obtain ⟨f0, f1, f2, f3, f4, f5, f6⟩ := hSw.2.1; obtain ⟨r0, r1, r2, r3⟩ := hSw.2.2.1; have pc := hSw.2.2.2; dsimp only at f0 f1 f2 f3 f4 f5 f6 r0 r1 r2 r3); clear hSw; go_simp; try with_reducible rfl
            try simp only [List.getElem_toArray]
            try simp only [List.getElem_cons_succ]
            try simp only [List.getElem_cons_zero]
            try simp only [Act.put]
            try simp only [List.setIfInBounds_toArray]
            try simp only [List.set]
            refine wpAnyH_take (i := 8) (v := ?v92) rfl (by kernel_rfl) (by kernel_rfl) (by kernel_rfl) (fun _ _ _ h => h) (Or.inl ⟨by kernel_rfl, ?h92⟩) hHeld ?_
            case h92 => intro u hSw; (obtain ⟨-, c0, c1, -, -⟩ := hSw.1; obtain ⟨f0, f1, f2, f3, f4, f5, f6⟩ := hSw.2.1; obtain ⟨r0, r1, r2, r3⟩ := hSw.2.2.1; have pc := hSw.2.2.2; dsimp only at f0 f1 f2 f3 f4 f5 f6 r0 r1 r2 r3); clear hSw; go_simp; try with_reducible rfl
            try simp only [List.getElem_toArray]
            try simp only [List.getElem_cons_succ]
            try simp only [List.getElem_cons_zero]
            try simp only [Act.put]
            try simp only [List.setIfInBounds_toArray]
            try simp only [List.set]
            refine wpAnyH_take (i := 5) (v := ?v93) rfl (by kernel_rfl) (by kernel_rfl) (by kernel_rfl) (fun _ _ _ h => h) (Or.inl ⟨by kernel_rfl, ?h93⟩) hHeld ?_
            case h93 => intro u hSw; (obtain ⟨-, c0, c1, -, -⟩ := hSw.1; obtain ⟨f0, f1, f2, f3, f4, f5, f6⟩ := hSw.2.1; obtain ⟨r0, r1, r2, r3⟩ := hSw.2.2.1; have pc := hSw.2.2.2; dsimp only at f0 f1 f2 f3 f4 f5 f6 r0 r1 r2 r3); clear hSw; go_simp; try with_reducible rfl
            try simp only [List.getElem_toArray]
            try simp only [List.getElem_cons_succ]
            try simp only [List.getElem_cons_zero]
            try simp only [Act.put]
            try simp only [List.setIfInBounds_toArray]
            try simp only [List.set]
            refine wpAnyH_take (i := 7) (v := ?v94) rfl (by kernel_rfl) (by kernel_rfl) (by kernel_rfl) (fun _ _ _ h => h) (Or.inl ⟨by kernel_rfl, ?h94⟩) hHeld ?_
            case h94 => intro u hSw; (obtain ⟨-, c0, c1, -, -⟩ := hSw.1; obtain ⟨f0, f1, f2, f3, f4, f5, f6⟩ := hSw.2.1; obtain ⟨r0, r1, r2, r3⟩ := hSw.2.2.1; have pc := hSw.2.2.2; dsimp only at f0 f1 f2 f3 f4 f5 f6 r0 r1 r2 r3); clear hSw; go_simp; try with_reducible rfl
            try simp only [List.getElem_toArray]
            try simp only [List.getElem_cons_succ]
            try simp only [List.getElem_cons_zero]
            try simp only [Act.put]
            try simp only [List.setIfInBounds_toArray]
            try simp only [List.set]
            refine wpAnyH_take (i := 9) (v := ?v95) rfl (by kernel_rfl) (by kernel_rfl) (by kernel_rfl) (fun _ _ _ h => h) (Or.inl ⟨by kernel_rfl, ?h95⟩) hHeld ?_
            case h95 => intro u hSw; (obtain ⟨-, c0, c1, -, -⟩ := hSw.1; obtain ⟨f0, f1, f2, f3, f4, f5, f6⟩ := hSw.2.1; obtain ⟨r0, r1, r2, r3⟩ := hSw.2.2.1; have pc := hSw.2.2.2; dsimp only at f0 f1 f2 f3 f4 f5 f6 r0 r1 r2 r3); clear hSw; go_simp; try with_reducible rfl
            try simp only [List.getElem_toArray]
            try simp only [List.getElem_cons_succ]
            try simp only [List.getElem_cons_zero]
            try simp only [Act.put]
            try simp only [List.setIfInBounds_toArray]
            try simp only [List.set]
            refine wpAnyH_take (i := 10) (v := ?v96) rfl (by kernel_rfl) (by kernel_rfl) (by kernel_rfl) (fun _ _ _ h => h) (Or.inl ⟨by kernel_rfl, ?h96⟩) hHeld ?_
            case h96 => intro u hSw; (obtain ⟨-, c0, c1, -, -⟩ := hSw.1; obtain ⟨f0, f1, f2, f3, f4, f5, f6⟩ := hSw.2.1; obtain ⟨r0, r1, r2, r3⟩ := hSw.2.2.1; have pc := hSw.2.2.2; dsimp only at f0 f1 f2 f3 f4 f5 f6 r0 r1 r2 r3); clear hSw; go_simp; try with_reducible rfl
            try simp only [List.getElem_toArray]
            try simp only [List.getElem_cons_succ]
            try simp only [List.getElem_cons_zero]
            try simp only [Act.put]
            try simp only [List.setIfInBounds_toArray]
            try simp only [List.set]
            refine wpAnyH_take (i := 11) (v := ?v97) rfl (by kernel_rfl) (by kernel_rfl) (by kernel_rfl) (fun _ _ _ h => h) (Or.inl ⟨by kernel_rfl, ?h97⟩) hHeld ?_
            case h97 => intro u hSw; (obtain ⟨-, c0, c1, -, -⟩ := hSw.1; obtain ⟨f0, f1, f2, f3, f4, f5, f6⟩ := hSw.2.1; obtain ⟨r0, r1, r2, r3⟩ := hSw.2.2.1; have pc := hSw.2.2.2; dsimp only at f0 f1 f2 f3 f4 f5 f6 r0 r1 r2 r3); clear hSw; go_simp; try with_reducible rfl
            try simp only [List.getElem_toArray]
            try simp only [List.getElem_cons_succ]
            try simp only [List.getElem_cons_zero]
            try simp only [Act.put]
            try simp only [List.setIfInBounds_toArray]
            try simp only [List.set]
            refine wpAnyH_take (i := 12) (v := ?v98) rfl (by kernel_rfl) (by kernel_rfl) (by kernel_rfl) (fun _ _ _ h => h) (Or.inl ⟨by kernel_rfl, ?h98⟩) hHeld ?_
            case h98 => intro u hSw; (obtain ⟨-, c0, c1, -, -⟩ := hSw.1; obtain ⟨f0, f1, f2, f3, f4, f5, f6⟩ := hSw.2.1; obtain ⟨r0, r1, r2, r3⟩ := hSw.2.2.1; have pc := hSw.2.2.2; dsimp only at f0 f1 f2 f3 f4 f5 f6 r0 r1 r2 r3); clear hSw; go_simp; try with_reducible rfl
            try simp only [List.getElem_toArray]
            try simp only [List.getElem_cons_succ]
            try simp only [List.getElem_cons_zero]
            try simp only [Act.put]
            try simp only [List.setIfInBounds_toArray]
            try simp only [List.set]
            refine wpAnyH_take (i := 13) (v := ?v99) rfl (by kernel_rfl) (by kernel_rfl) (by kernel_rfl) (fun _ _ _ h => h) (Or.inl ⟨by kernel_rfl, ?h99⟩) hHeld ?_
            case h99 => intro u hSw; (obtain ⟨-, c0, c1, -, -⟩ := hSw.1; obtain ⟨f0, f1, f2, f3, f4, f5, f6⟩ := hSw.2.1; obtain ⟨r0, r1, r2, r3⟩ := hSw.2.2.1; have pc := hSw.2.2.2; dsimp only at f0 f1 f2 f3 f4 f5 f6 r0 r1 r2 r3); clear hSw; go_simp; try with_reducible rfl
            try simp only [List.getElem_toArray]
            try simp only [List.getElem_cons_succ]
            try simp only [List.getElem_cons_zero]
            try simp only [Act.put]
            try simp only [List.setIfInBounds_toArray]
            try simp only [List.set]
            refine wpAnyH_take (i := 14) (v := ?v100) rfl (by kernel_rfl) (by kernel_rfl) (by kernel_rfl) (fun _ _ _ h => h) (Or.inl ⟨by kernel_rfl, ?h100⟩) hHeld ?_
            case h100 => intro u hSw; (obtain ⟨-, c0, c1, -, -⟩ := hSw.1; obtain ⟨f0, f1, f2, f3, f4, f5, f6⟩ := hSw.2.1; obtain ⟨r0, r1, r2, r3⟩ := hSw.2.2.1; have pc := hSw.2.2.2; dsimp only at f0 f1 f2 f3 f4 f5 f6 r0 r1 r2 r3); clear hSw; go_simp; try with_reducible rfl
            try simp only [List.getElem_toArray]
            try simp only [List.getElem_cons_succ]
            try simp only [List.getElem_cons_zero]
            try simp only [Act.put]
            try simp only [List.setIfInBounds_toArray]
            try simp only [List.set]
            refine wpAnyH_take (i := 15) (v := ?v101) rfl (by kernel_rfl) (by kernel_rfl) (by kernel_rfl) (fun _ _ _ h => h) (Or.inl ⟨by kernel_rfl, ?h101⟩) hHeld ?_
            case h101 => intro u hSw; (obtain ⟨-, c0, c1, -, -⟩ := hSw.1; obtain ⟨f0, f1, f2, f3, f4, f5, f6⟩ := hSw.2.1; obtain ⟨r0, r1, r2, r3⟩ := hSw.2.2.1; have pc := hSw.2.2.2; dsimp only at f0 f1 f2 f3 f4 f5 f6 r0 r1 r2 r3); clear hSw; go_simp; try with_reducible rfl
            try simp only [List.getElem_toArray]
            try simp only [List.getElem_cons_succ]
            try simp only [List.getElem_cons_zero]
            try simp only [Act.put]
            try simp only [List.setIfInBounds_toArray]
            try simp only [List.set]
            refine wpAnyH_take (i := 16) (v := ?v102) rfl (by kernel_rfl) (by kernel_rfl) (by kernel_rfl) (fun _ _ _ h => h) (Or.inl ⟨by kernel_rfl, ?h102⟩) hHeld ?_
            case h102 => intro u hSw; (obtain ⟨-, c0, c1, -, -⟩ := hSw.1; obtain ⟨f0, f1, f2, f3, f4, f5, f6⟩ := hSw.2.1; obtain ⟨r0, r1, r2, r3⟩ := hSw.2.2.1; have pc := hSw.2.2.2; dsimp only at f0 f1 f2 f3 f4 f5 f6 r0 r1 r2 r3); clear hSw; go_simp; try with_reducible rfl
            try simp only [List.getElem_toArray]
            try simp only [List.getElem_cons_succ]
            try simp only [List.getElem_cons_zero]
            try simp only [Act.put]
            try simp only [List.setIfInBounds_toArray]
            try simp only [List.set]
            refine wpAnyH_take (i := 17) (v := ?v103) rfl (by kernel_rfl) (by kernel_rfl) (by kernel_rfl) (fun _ _ _ h => h) (Or.inl ⟨by kernel_rfl, ?h103⟩) hHeld ?_
            case h103 => intro u hSw; (obtain ⟨-, c0, c1, -, -⟩ := hSw.1; obtain ⟨f0, f1, f2, f3, f4, f5, f6⟩ := hSw.2.1; obtain ⟨r0, r1, r2, r3⟩ := hSw.2.2.1; have pc := hSw.2.2.2; dsimp only at f0 f1 f2 f3 f4 f5 f6 r0 r1 r2 r3); clear hSw; go_simp; try with_reducible rfl
            try simp only [List.getElem_toArray]
            try simp only [List.getElem_cons_succ]
            try simp only [List.getElem_cons_zero]
            try simp only [Act.put]
            try simp only [List.setIfInBounds_toArray]
            try simp only [List.set]
            refine wpAnyH_take (i := 18) (v := ?v104) rfl (by kernel_rfl) (by kernel_rfl) (by kernel_rfl) (fun _ _ _ h => h) (Or.inl ⟨by kernel_rfl, ?h104⟩) hHeld ?_
            case h104 => intro u hSw; (obtain ⟨-, c0, c1, -, -⟩ := hSw.1; obtain ⟨f0, f1, f2, f3, f4, f5, f6⟩ := hSw.2.1; obtain ⟨r0, r1, r2, r3⟩ := hSw.2.2.1; have pc := hSw.2.2.2; dsimp only at f0 f1 f2 f3 f4 f5 f6 r0 r1 r2 r3); clear hSw; go_simp; try with_reducible rfl
            try simp only [List.getElem_toArray]
            try simp only [List.getElem_cons_succ]
            try simp only [List.getElem_cons_zero]
            try simp only [Act.put]
            try simp only [List.setIfInBounds_toArray]
            try simp only [List.set]
            refine wpAnyH_take (i := 19) (v := ?v105) rfl (by kernel_rfl) (by kernel_rfl) (by kernel_rfl) (fun _ _ _ h => h) (Or.inl ⟨by kernel_rfl, ?h105⟩) hHeld ?_
            case h105 => intro u hSw; (obtain ⟨-, c0, c1, -, -⟩ := hSw.1; obtain ⟨f0, f1, f2, f3, f4, f5, f6⟩ := hSw.2.1; obtain ⟨r0, r1, r2, r3⟩ := hSw.2.2.1; have pc := hSw.2.2.2; dsimp only at f0 f1 f2 f3 f4 f5 f6 r0 r1 r2 r3); clear hSw; go_simp; try with_reducible rfl
            try simp only [List.getElem_toArray]
            try simp only [List.getElem_cons_succ]
            try simp only [List.getElem_cons_zero]
            try simp only [Act.put]
            try simp only [List.setIfInBounds_toArray]
            try simp only [List.set]
            refine wpAnyH_take (i := 21) (v := ?v106) rfl (by kernel_rfl) (by kernel_rfl) (by kernel_rfl) (fun _ _ _ h => h) (Or.inl ⟨by kernel_rfl, ?h106⟩) hHeld ?_
            case h106 => intro u hSw; (obtain ⟨-, c0, c1, -, -⟩ := hSw.1; obtain ⟨f0, f1, f2, f3, f4, f5, f6⟩ := hSw.2.1; obtain ⟨r0, r1, r2, r3⟩ := hSw.2.2.1; have pc := hSw.2.2.2; dsimp only at f0 f1 f2 f3 f4 f5 f6 r0 r1 r2 r3); clear hSw; go_simp; try with_reducible rfl
            try simp only [List.getElem_toArray]
            try simp only [List.getElem_cons_succ]
            try simp only [List.getElem_cons_zero]
            try simp only [Act.put]
            try simp only [List.setIfInBounds_toArray]
            try simp only [List.set]
            refine wpAnyH_take (i := 20) (v := ?v107) rfl (by kernel_rfl) (by kernel_rfl) (by kernel_rfl) (fun _ _ _ h => h) (Or.inl ⟨by kernel_rfl, ?h107⟩) hHeld ?_
            case h107 => intro u hSw; (obtain ⟨-, c0, c1, -, -⟩ := hSw.1; obtain ⟨f0, f1, f2, f3, f4, f5, f6⟩ := hSw.2.1; obtain ⟨r0, r1, r2, r3⟩ := hSw.2.2.1; have pc := hSw.2.2.2; dsimp only at f0 f1 f2 f3 f4 f5 f6 r0 r1 r2 r3); clear hSw; go_simp; try with_reducible rfl
            try simp only [List.getElem_toArray]
            try simp only [List.getElem_cons_succ]
            try simp only [List.getElem_cons_zero]
            try simp only [Act.put]
            try simp only [List.setIfInBounds_toArray]
            try simp only [List.set]
            refine wpAnyH_take (i := 22) (v := ?v108) rfl (by kernel_rfl) (by kernel_rfl) (by kernel_rfl) (fun _ _ _ h => h) (Or.inl ⟨by kernel_rfl, ?h108⟩) hHeld ?_
            case h108 => intro u hSw; (obtain ⟨-, c0, c1, -, -⟩ := hSw.1; obtain ⟨f0, f1, f2, f3, f4, f5, f6⟩ := hSw.2.1; obtain ⟨r0, r1, r2, r3⟩ := hSw.2.2.1; have pc := hSw.2.2.2; dsimp only at f0 f1 f2 f3 f4 f5 f6 r0 r1 r2 r3); clear hSw; go_simp; try with_reducible rfl
            try simp only [List.getElem_toArray]
            try simp only [List.getElem_cons_succ]
            try simp only [List.getElem_cons_zero]
            try simp only [Act.put]
            try simp only [List.setIfInBounds_toArray]
            try simp only [List.set]
            refine wpAnyH_take (i := 23) (v := ?v109) rfl (by kernel_rfl) (by kernel_rfl) (by kernel_rfl) (fun _ _ _ h => h) (Or.inl ⟨by kernel_rfl, ?h109⟩) hHeld ?_
            case h109 => intro u hSw; (obtain ⟨-, c0, c1, -, -⟩ := hSw.1; obtain ⟨f0, f1, f2, f3, f4, f5, f6⟩ := hSw.2.1; obtain ⟨r0, r1, r2, r3⟩ := hSw.2.2.1; have pc := hSw.2.2.2; dsimp only at f0 f1 f2 f3 f4 f5 f6 r0 r1 r2 r3); clear hSw; go_simp; try with_reducible rfl
            try simp only [List.getElem_toArray]
            try simp only [List.getElem_cons_succ]
            try simp only [List.getElem_cons_zero]
            try simp only [Act.put]
            try simp only [List.setIfInBounds_toArray]
            try simp only [List.set]
            refine wpAnyH_take (i := 24) (v := ?v110) rfl (by kernel_rfl) (by kernel_rfl) (by kernel_rfl) (fun _ _ _ h => h) (Or.inl ⟨by kernel_rfl, ?h110⟩) hHeld ?_
            case h110 => intro u hSw; (obtain ⟨-, c0, c1, -, -⟩ := hSw.1; obtain ⟨f0, f1, f2, f3, f4, f5, f6⟩ := hSw.2.1; obtain ⟨r0, r1, r2, r3⟩ := hSw.2.2.1; have pc := hSw.2.2.2; dsimp only at f0 f1 f2 f3 f4 f5 f6 r0 r1 r2 r3); clear hSw; go_simp; try with_reducible rfl
            try simp only [List.getElem_toArray]
            try simp only [List.getElem_cons_succ]
            try simp only [List.getElem_cons_zero]
            try simp only [Act.put]
            try simp only [List.setIfInBounds_toArray]
            try simp only [List.set]
            refine wpAnyH_take (i := 25) (v := ?v111) rfl (by kernel_rfl) (by kernel_rfl) (by kernel_rfl) (fun _ _ _ h => h) (Or.inl ⟨by kernel_rfl, ?h111⟩) hHeld ?_
            case h111 => intro u hSw; (obtain ⟨-, c0, c1, -, -⟩ := hSw.1; obtain ⟨f0, f1, f2, f3, f4, f5, f6⟩ := hSw.2.1; obtain ⟨r0, r1, r2, r3⟩ := hSw.2.2.1; have pc := hSw.2.2.2; dsimp only at f0 f1 f2 f3 f4 f5 f6 r0 r1 r2 r3); clear hSw; go_simp; try with_reducible rfl
            try simp only [List.getElem_toArray]
            try simp only [List.getElem_cons_succ]
            try simp only [List.getElem_cons_zero]
            try simp only [Act.put]
            try simp only [List.setIfInBounds_toArray]
            try simp only [List.set]
            refine wpAnyH_take (i := 26) (v := ?v112) rfl (by kernel_rfl) (by kernel_rfl) (by kernel_rfl) (fun _ _ _ h => h) (Or.inl ⟨by kernel_rfl, ?h112⟩) hHeld ?_
            case h112 => intro u hSw; (obtain ⟨-, c0, c1, -, -⟩ := hSw.1; obtain ⟨f0, f1, f2, f3, f4, f5, f6⟩ := hSw.2.1; obtain ⟨r0, r1, r2, r3⟩ := hSw.2.2.1; have pc := hSw.2.2.2; dsimp only at f0 f1 f2 f3 f4 f5 f6 r0 r1 r2 r3); clear hSw; go_simp; try with_reducible rfl
            try simp only [List.getElem_toArray]
            try simp only [List.getElem_cons_succ]
            try simp only [List.getElem_cons_zero]
            try simp only [Act.put]
            try simp only [List.setIfInBounds_toArray]
            try simp only [List.set]
            refine wpAnyH_take (i := 27) (v := ?v113) rfl (by kernel_rfl) (by kernel_rfl) (by kernel_rfl) (fun _ _ _ h => h) (Or.inl ⟨by kernel_rfl, ?h113⟩) hHeld ?_
            case h113 => intro u hSw; (obtain ⟨-, c0, c1, -, -⟩ := hSw.1; obtain ⟨f0, f1, f2, f3, f4, f5, f6⟩ := hSw.2.1; obtain ⟨r0, r1, r2, r3⟩ := hSw.2.2.1; have pc := hSw.2.2.2; dsimp only at f0 f1 f2 f3 f4 f5 f6 r0 r1 r2 r3); clear hSw; go_simp; try with_reducible rfl
            try simp only [List.getElem_toArray]
            try simp only [List.getElem_cons_succ]
            try simp only [List.getElem_cons_zero]
            try simp only [Act.put]
            try simp only [List.setIfInBounds_toArray]
            try simp only [List.set]
            refine wpAnyH_take (i := 31) (v := ?v114) rfl (by kernel_rfl) (by kernel_rfl) (by kernel_rfl) (fun _ _ _ h => h) (Or.inl ⟨by kernel_rfl, ?h114⟩) hHeld ?_
            case h114 => intro u hSw; (obtain ⟨-, c0, c1, -, -⟩ := hSw.1; obtain ⟨f0, f1, f2, f3, f4, f5, f6⟩ := hSw.2.1; obtain ⟨r0, r1, r2, r3⟩ := hSw.2.2.1; have pc := hSw.2.2.2; dsimp only at f0 f1 f2 f3 f4 f5 f6 r0 r1 r2 r3); clear hSw; go_simp; try with_reducible rfl
            try simp only [List.getElem_toArray]
            try simp only [List.getElem_cons_succ]
            try simp only [List.getElem_cons_zero]
            try simp only [Act.put]
            try simp only [List.setIfInBounds_toArray]
            try simp only [List.set]
            refine wpAnyH_take (i := 28) (v := ?v115) rfl (by kernel_rfl) (by kernel_rfl) (by kernel_rfl) (fun _ _ _ h => h) (Or.inl ⟨by kernel_rfl, ?h115⟩) hHeld ?_
            case h115 => intro u hSw; (obtain ⟨-, c0, c1, -, -⟩ := hSw.1; obtain ⟨f0, f1, f2, f3, f4, f5, f6⟩ := hSw.2.1; obtain ⟨r0, r1, r2, r3⟩ := hSw.2.2.1; have pc := hSw.2.2.2; dsimp only at f0 f1 f2 f3 f4 f5 f6 r0 r1 r2 r3); clear hSw; go_simp; try with_reducible rfl
            try simp only [List.getElem_toArray]
            try simp only [List.getElem_cons_succ]
            try simp only [List.getElem_cons_zero]
            try simp only [Act.put]
            try simp only [List.setIfInBounds_toArray]
            try simp only [List.set]
            refine wpAnyH_take (i := 32) (v := ?v116) rfl (by kernel_rfl) (by kernel_rfl) (by kernel_rfl) (fun _ _ _ h => h) (Or.inl ⟨by kernel_rfl, ?h116⟩) hHeld ?_
            case h116 => intro u hSw; (obtain ⟨-, c0, c1, -, -⟩ := hSw.1; obtain ⟨f0, f1, f2, f3, f4, f5, f6⟩ := hSw.2.1; obtain ⟨r0, r1, r2, r3⟩ := hSw.2.2.1; have pc := hSw.2.2.2; dsimp only at f0 f1 f2 f3 f4 f5 f6 r0 r1 r2 r3); clear hSw; go_simp; try with_reducible rfl
            try simp only [List.getElem_toArray]
            try simp only [List.getElem_cons_succ]
            try simp only [List.getElem_cons_zero]
            try simp only [Act.put]
            try simp only [List.setIfInBounds_toArray]
            try simp only [List.set]
            refine wpAnyH_take (i := 29) (v := ?v117) rfl (by kernel_rfl) (by kernel_rfl) (by kernel_rfl) (fun _ _ _ h => h) (Or.inl ⟨by kernel_rfl, ?h117⟩) hHeld ?_
            case h117 => intro u hSw; (obtain ⟨-, c0, c1, -, -⟩ := hSw.1; obtain ⟨f0, f1, f2, f3, f4, f5, f6⟩ := hSw.2.1; obtain ⟨r0, r1, r2, r3⟩ := hSw.2.2.1; have pc := hSw.2.2.2; dsimp only at f0 f1 f2 f3 f4 f5 f6 r0 r1 r2 r3); clear hSw; go_simp; try with_reducible rfl
            try simp only [List.getElem_toArray]
            try simp only [List.getElem_cons_succ]
            try simp only [List.getElem_cons_zero]
            try simp only [Act.put]
            try simp only [List.setIfInBounds_toArray]
            try simp only [List.set]
            refine wpAnyH_take (i := 30) (v := ?v118) rfl (by kernel_rfl) (by kernel_rfl) (by kernel_rfl) (fun _ _ _ h => h) (Or.inl ⟨by kernel_rfl, ?h118⟩) hHeld ?_
            case h118 => intro u hSw; (obtain ⟨-, c0, c1, -, -⟩ := hSw.1; obtain ⟨f0, f1, f2, f3, f4, f5, f6⟩ := hSw.2.1; obtain ⟨r0, r1, r2, r3⟩ := hSw.2.2.1; have pc := hSw.2.2.2; dsimp only at f0 f1 f2 f3 f4 f5 f6 r0 r1 r2 r3); clear hSw; go_simp; try with_reducible rfl
            try simp only [List.getElem_toArray]
            try simp only [List.getElem_cons_succ]
            try simp only [List.getElem_cons_zero]
            try simp only [Act.put]
            try simp only [List.setIfInBounds_toArray]
            try simp only [List.set]
            refine wpAnyH_ready (rs := [33]) (by kernel_rfl) (by simp) ?_
            refine AllReadyH.cons rfl (fun K hK => ?_) AllReadyH.nil
            go_simp
            go_wp2_with (go_at_call 10; refine (implSlotIn_any xa zi zn xc k _ hzn HPz.out.1 hxc hHX (HPz.out.2) hkw).mono ?_; rintro e E1 ⟨sa, sd, rfl, gb, -⟩; rw [HSl.out])
            refine hK.out _ _ (⟨hHeld.1.up gb, hHeld.2.1.below gb hHeld.2.1.lt, hHeld.2.2.1.below gb (World.block_lt_of_cell? _ _ hHeld.2.2.1.c0), (gb.cell (World.block_lt_of_cell? _ _ hHeld.2.2.2)).trans hHeld.2.2.2⟩) (fun hHeld => ?_)
            clear hK K
            clear gb
            try simp only [Act.put]
            try simp only [List.setIfInBounds_toArray]
            try simp only [List.set]
            refine wpAnyH_take (i := 34) (v := ?v119) rfl (by kernel_rfl) (by kernel_rfl) (by kernel_rfl) (fun _ _ _ h => h) (Or.inl ⟨by kernel_rfl, ?h119⟩) hHeld ?_
            case h119 => intro u hSw; (obtain ⟨-, c0, c1, -, -⟩ := hSw.1; obtain ⟨f0, f1, f2, f3, f4, f5, f6⟩ := hSw.2.1; obtain ⟨r0, r1, r2, r3⟩ := hSw.2.2.1; have pc := hSw.2.2.2; dsimp only at f0 f1 f2 f3 f4 f5 f6 r0 r1 r2 r3); clear hSw; go_simp; try with_reducible rfl
            try simp only [List.getElem_toArray]
            try simp only [List.getElem_cons_succ]
            try simp only [List.getElem_cons_zero]
            try simp only [Act.put]
            try simp only [List.setIfInBounds_toArray]
            try simp only [List.set]
            refine wpAnyH_take (i := 35) (v := ?v120) rfl (by kernel_rfl) (by kernel_rfl) (by kernel_rfl) (fun _ _ _ h => h) (Or.inl ⟨by kernel_rfl, ?h120⟩) hHeld ?_
            case h120 => intro u hSw; (obtain ⟨-, c0, c1, -, -⟩ := hSw.1; obtain ⟨f0, f1, f2, f3, f4, f5, f6⟩ := hSw.2.1; obtain ⟨r0, r1, r2, r3⟩ := hSw.2.2.1; have pc := hSw.2.2.2; dsimp only at f0 f1 f2 f3 f4 f5 f6 r0 r1 r2 r3); clear hSw; go_simp; try with_reducible rfl
            try simp only [List.getElem_toArray]
            try simp only [List.getElem_cons_succ]
            try simp only [List.getElem_cons_zero]
            try simp only [Act.put]
            try simp only [List.setIfInBounds_toArray]
            try simp only [List.set]
            refine wpAnyH_take (i := 36) (v := ?v121) rfl (by kernel_rfl) (by kernel_rfl) (by kernel_rfl) (fun _ _ _ h => h) (Or.inl ⟨by kernel_rfl, ?h121⟩) hHeld ?_
            case h121 => intro u hSw; (obtain ⟨-, c0, c1, -, -⟩ := hSw.1; obtain ⟨f0, f1, f2, f3, f4, f5, f6⟩ := hSw.2.1; obtain ⟨r0, r1, r2, r3⟩ := hSw.2.2.1; have pc := hSw.2.2.2; dsimp only at f0 f1 f2 f3 f4 f5 f6 r0 r1 r2 r3); clear hSw; go_simp; try with_reducible rfl
            try simp only [List.getElem_toArray]
            try simp only [List.getElem_cons_succ]
            try simp only [List.getElem_cons_zero]
            try simp only [Act.put]
            try simp only [List.setIfInBounds_toArray]
            try simp only [List.set]
            refine wpAnyH_done (by kernel_rfl) ?_ _
            go_wp2_with fail
            go_roundw
            case rel => exact ⟨j + 1, by omega, by go_num, hHeld.1⟩
            case measure => simp [intOf]; omega
      · have hjn : ¬ (j : Int) < (rn : Int) := by omega
        have c1 := V.c1
        go_wp2_with fail
        refine (drawFindRow_any a n c xs _ (HRd.out _ V.g) HXl.out (by omega) HXz.out).mono ?_
        rintro e w5 ⟨pg2, m2, ps2, t, k, rfl, hpl2, hmm2, hrd5, hok2, g5⟩
        have V := V.up g5
        clear g5 c1
        go_wp2_with fail
        refine (implFindRow_any (some ⟨pg2, 0, none⟩) ps2 m2 m2 t k _ hpl2 (by omega) hok2 hrd5).mono ?_
        rintro e w6 ⟨rfl, g6⟩
        obtain ⟨z, hz⟩ : ∃ z, findR ps2 t k = z := ⟨_, rfl⟩
        have HZ : Hid (findR ps2 t k = z) := hz
        rw [hz]
        clear hz
        obtain ⟨zq, zp, zs', ⟨zt, zk, zv, zx⟩⟩ := z
        simp only [plV]
        have V := V.up g6
        have hrd6 := hrd5.below g6 (Nat.le_refl _)
        clear g6 hrd5
        go_upto_region 15 with (fail)
        generalize hY : World.alloc _ _ = Y6
        have gY : Below w6.heap.size w6 Y6 := by rw [← hY]; go_grown
        have F1 : PlC Y6 w6.heap.size 0 ⟨zq, zp, zs', ⟨zt, zk, zv, zx⟩⟩ := by rw [← hY]; exact ⟨by simp [go_sem], by simp [go_sem], by simp [go_sem], by simp [go_sem], by simp [go_sem], by simp [go_sem], by simp [go_sem]⟩
        have V := V.up gY
        have hrd7 := hrd6.below gY (Nat.le_refl _)
        clear hY gY hrd6
        generalize w6.heap.size = f1 at F1 ⊢
        go_wp2_with fail
        refine (specFindRow_any (some ⟨pg2, 0, none⟩) ps2 m2 m2 t k _ hpl2 (by omega) hok2 hrd7).mono ?_
        rintro e w7 ⟨rfl, g7⟩
        rw [HZ.out]
        simp only [plV]
        have V := V.up g7
        have F1 := F1.below g7 F1.lt
        clear g7 hrd7
        go_upto_region 16 with (fail)
        generalize hY : World.alloc _ _ = Y7
        have gY : Below w7.heap.size w7 Y7 := by rw [← hY]; go_grown
        have F2 : PlC Y7 w7.heap.size 0 ⟨zq, zp, zs', ⟨zt, zk, zv, zx⟩⟩ := by rw [← hY]; exact ⟨by simp [go_sem], by simp [go_sem], by simp [go_sem], by simp [go_sem], by simp [go_sem], by simp [go_sem], by simp [go_sem]⟩
        have V := V.up gY
        have F1 := F1.below gY F1.lt
        clear hY gY
        generalize w7.heap.size = f2 at F2 ⊢
        refine wp_region_held_drew (S := fun V => VwS w pg ps rb 0 ra rn rc rs V ∧ PlC V f1 0 ⟨zq, zp, zs', ⟨zt, zk, zv, zx⟩⟩ ∧ PlC V f2 0 ⟨zq, zp, zs', ⟨zt, zk, zv, zx⟩⟩) (by kernel_rfl) ⟨V.drew, F1.below (Below.refl _ _).drew F1.lt, F2.below (Below.refl _ _).drew F2.lt⟩ (fun hHeld => ?_)
        generalize Y7.drew = D at hHeld ⊢
        clear V F1 F2
        refine wpAnyH_take (i := 0) (v := ?v26) rfl (by kernel_rfl) (by kernel_rfl) (by kernel_rfl) (fun _ _ _ h => h) (Or.inl ⟨by kernel_rfl, ?h26⟩) hHeld ?_
        case h26 => intro u hSw; (obtain ⟨-, c0, c1, -, -⟩ := hSw.1; obtain ⟨f0, f1, f2, f3, f4, f5, f6⟩ := hSw.2.1; obtain ⟨r0, r1, r2, r3, r4, r5, r6⟩ := hSw.2.2; dsimp only at f0 f1 f2 f3 f4 f5 f6 r0 r1 r2 r3 r4 r5 r6); clear hSw; go_simp; try with_reducible rfl
        try simp only [List.getElem_toArray]
        try simp only [List.getElem_cons_succ]
        try simp only [List.getElem_cons_zero]
        try simp only [Act.put]
        try simp only [List.setIfInBounds_toArray]
        try simp only [List.set]
        refine wpAnyH_take (i := 1) (v := ?v27) rfl (by kernel_rfl) (by kernel_rfl) (by kernel_rfl) (fun _ _ _ h => h) (Or.inl ⟨by kernel_rfl, ?h27⟩) hHeld ?_
        case h27 => intro u hSw; (obtain ⟨-, c0, c1, -, -⟩ := hSw.1; obtain ⟨f0, f1, f2, f3, f4, f5, f6⟩ := hSw.2.1; obtain ⟨r0, r1, r2, r3, r4, r5, r6⟩ := hSw.2.2; dsimp only at f0 f1 f2 f3 f4 f5 f6 r0 r1 r2 r3 r4 r5 r6); clear hSw; go_simp; try with_reducible rfl
        try simp only [List.getElem_toArray]
        try simp only [List.getElem_cons_succ]
        try simp only [List.getElem_cons_zero]
        try simp only [Act.put]
        try simp only [List.setIfInBounds_toArray]
        try simp only [List.set]
        refine wpAnyH_ready (rs := [2]) (by kernel_rfl) (by simp) ?_
        refine AllReadyH.cons rfl (fun K hK => ?_) AllReadyH.nil
        go_simp
        go_wp2_with (go_at_call 13; refine (implRowsFault_any ra rs rn rc _ HRN.out (by omega) HSz.out hHeld.1.rr).mono ?_; rintro e E1 ⟨rfl, gb⟩; rw [HRQ.out])
        refine hK.out _ _ (⟨hHeld.1.up gb, hHeld.2.1.below gb hHeld.2.1.lt, hHeld.2.2.below gb hHeld.2.2.lt⟩) (fun hHeld => ?_)
        clear hK K
        clear gb
        try simp only [Act.put]
        try simp only [List.setIfInBounds_toArray]
        try simp only [List.set]
        refine wpAnyH_take (i := 3) (v := ?v28) rfl (by kernel_rfl) (by kernel_rfl) (by kernel_rfl) (fun _ _ _ h => h) (Or.inl ⟨by kernel_rfl, ?h28⟩) hHeld ?_
        case h28 => intro u hSw; (obtain ⟨-, c0, c1, -, -⟩ := hSw.1; obtain ⟨f0, f1, f2, f3, f4, f5, f6⟩ := hSw.2.1; obtain ⟨r0, r1, r2, r3, r4, r5, r6⟩ := hSw.2.2; dsimp only at f0 f1 f2 f3 f4 f5 f6 r0 r1 r2 r3 r4 r5 r6); clear hSw; go_simp; try with_reducible rfl
        try simp only [List.getElem_toArray]
        try simp only [List.getElem_cons_succ]
        try simp only [List.getElem_cons_zero]
        try simp only [Act.put]
        try simp only [List.setIfInBounds_toArray]
        try simp only [List.set]
        refine wpAnyH_take (i := 4) (v := ?v29) rfl (by kernel_rfl) (by kernel_rfl) (by kernel_rfl) (fun _ _ _ h => h) (Or.inl ⟨by kernel_rfl, ?h29⟩) hHeld ?_
        case h29 => intro u hSw; (obtain ⟨-, c0, c1, -, -⟩ := hSw.1; obtain ⟨f0, f1, f2, f3, f4, f5, f6⟩ := hSw.2.1; obtain ⟨r0, r1, r2, r3, r4, r5, r6⟩ := hSw.2.2; dsimp only at f0 f1 f2 f3 f4 f5 f6 r0 r1 r2 r3 r4 r5 r6); clear hSw; go_simp; try with_reducible rfl
        try simp only [List.getElem_toArray]
        try simp only [List.getElem_cons_succ]
        try simp only [List.getElem_cons_zero]
        try simp only [Act.put]
        try simp only [List.setIfInBounds_toArray]
        try simp only [List.set]
        refine wpAnyH_take (i := 5) (v := ?v30) rfl (by kernel_rfl) (by kernel_rfl) (by kernel_rfl) (fun _ _ _ h => h) (Or.inl ⟨by kernel_rfl, ?h30⟩) hHeld ?_
        case h30 => intro u hSw; (obtain ⟨-, c0, c1, -, -⟩ := hSw.1; obtain ⟨f0, f1, f2, f3, f4, f5, f6⟩ := hSw.2.1; obtain ⟨r0, r1, r2, r3, r4, r5, r6⟩ := hSw.2.2; dsimp only at f0 f1 f2 f3 f4 f5 f6 r0 r1 r2 r3 r4 r5 r6); clear hSw; go_simp; try with_reducible rfl
        try simp only [List.getElem_toArray]
        try simp only [List.getElem_cons_succ]
        try simp only [List.getElem_cons_zero]
        try simp only [Act.put]
        try simp only [List.setIfInBounds_toArray]
        try simp only [List.set]
        refine wpAnyH_take (i := 7) (v := ?v31) rfl (by kernel_rfl) (by kernel_rfl) (by kernel_rfl) (fun _ _ _ h => h) (Or.inl ⟨by kernel_rfl, ?h31⟩) hHeld ?_
        case h31 => intro u hSw; (obtain ⟨-, c0, c1, -, -⟩ := hSw.1; obtain ⟨f0, f1, f2, f3, f4, f5, f6⟩ := hSw.2.1; obtain ⟨r0, r1, r2, r3, r4, r5, r6⟩ := hSw.2.2; dsimp only at f0 f1 f2 f3 f4 f5 f6 r0 r1 r2 r3 r4 r5 r6); clear hSw; go_simp; try with_reducible rfl
        try simp only [List.getElem_toArray]
        try simp only [List.getElem_cons_succ]
        try simp only [List.getElem_cons_zero]
        try simp only [Act.put]
        try simp only [List.setIfInBounds_toArray]
        try simp only [List.set]
        refine wpAnyH_take (i := 6) (v := ?v32) rfl (by kernel_rfl) (by kernel_rfl) (by kernel_rfl) (fun _ _ _ h => h) (Or.inl ⟨by kernel_rfl, ?h32⟩) hHeld ?_
        case h32 => intro u hSw; (obtain ⟨-, c0, c1, -, -⟩ := hSw.1; obtain ⟨f0, f1, f2, f3, f4, f5, f6⟩ := hSw.2.1; obtain ⟨r0, r1, r2, r3, r4, r5, r6⟩ := hSw.2.2; dsimp only at f0 f1 f2 f3 f4 f5 f6 r0 r1 r2 r3 r4 r5 r6); clear hSw; go_simp; try with_reducible rfl
        try simp only [List.getElem_toArray]
        try simp only [List.getElem_cons_succ]
        try simp only [List.getElem_cons_zero]
        try simp only [Act.put]
        try simp only [List.setIfInBounds_toArray]
        try simp only [List.set]
        refine wpAnyH_ready (rs := [8]) (by kernel_rfl) (by simp) ?_
        refine AllReadyH.cons rfl (fun K hK => ?_) AllReadyH.nil
        go_simp
        go_wp2_with (go_at_call 7; refine (specRowsIn_any (some ⟨pg, 0, none⟩) ps 2 2 _ hpl (by omega) HOk.out hHeld.1.rd).mono ?_; rintro e E2 ⟨v1, rs1, rfl, gb, ho1, hz1, -⟩; obtain ⟨ya, yc, rfl, -, hin1, -⟩ := SlIn.ofRow rwE_len ho1; have ers := RowsOrd.unique (hz1 HQ.out) HOr.out; rw [HQ.out, ers, HRN.out]; have hyr := hin1.reads; rw [ers] at hyr; clear ho1 hz1 hin1 ers)
        refine hK.out _ _ (⟨hHeld.1.up gb, hHeld.2.1.below gb hHeld.2.1.lt, hHeld.2.2.below gb hHeld.2.2.lt⟩) (fun hHeld => ?_)
        clear hK K
        clear gb
        try simp only [Act.put]
        try simp only [List.setIfInBounds_toArray]
        try simp only [List.set]
        refine wpAnyH_take (i := 9) (v := ?v33) rfl (by kernel_rfl) (by kernel_rfl) (by kernel_rfl) (fun _ _ _ h => h) (Or.inl ⟨by kernel_rfl, ?h33⟩) hHeld ?_
        case h33 => intro u hSw; (obtain ⟨-, c0, c1, -, -⟩ := hSw.1; obtain ⟨f0, f1, f2, f3, f4, f5, f6⟩ := hSw.2.1; obtain ⟨r0, r1, r2, r3, r4, r5, r6⟩ := hSw.2.2; dsimp only at f0 f1 f2 f3 f4 f5 f6 r0 r1 r2 r3 r4 r5 r6); clear hSw; go_simp; try with_reducible rfl
        try simp only [List.getElem_toArray]
        try simp only [List.getElem_cons_succ]
        try simp only [List.getElem_cons_zero]
        try simp only [Act.put]
        try simp only [List.setIfInBounds_toArray]
        try simp only [List.set]
        refine wpAnyH_ready (rs := [10]) (by kernel_rfl) (by simp) ?_
        refine AllReadyH.cons rfl (fun K hK => ?_) AllReadyH.nil
        go_simp
        go_wp2_with (go_at_call 14; refine (lwRows_same ra ya rs rn rc yc _ HRN.out (by omega) hHeld.1.rr hyr).mono ?_; rintro e E3 ⟨rfl, gb⟩)
        refine hK.out _ _ (⟨hHeld.1.up gb, hHeld.2.1.below gb hHeld.2.1.lt, hHeld.2.2.below gb hHeld.2.2.lt⟩) (fun hHeld => ?_)
        clear hK K
        clear gb
        try simp only [Act.put]
        try simp only [List.setIfInBounds_toArray]
        try simp only [List.set]
        refine wpAnyH_take (i := 11) (v := ?v34) rfl (by kernel_rfl) (by kernel_rfl) (by kernel_rfl) (fun _ _ _ h => h) (Or.inl ⟨by kernel_rfl, ?h34⟩) hHeld ?_
        case h34 => intro u hSw; (obtain ⟨-, c0, c1, -, -⟩ := hSw.1; obtain ⟨f0, f1, f2, f3, f4, f5, f6⟩ := hSw.2.1; obtain ⟨r0, r1, r2, r3, r4, r5, r6⟩ := hSw.2.2; dsimp only at f0 f1 f2 f3 f4 f5 f6 r0 r1 r2 r3 r4 r5 r6); clear hSw; go_simp; try with_reducible rfl
        try simp only [List.getElem_toArray]
        try simp only [List.getElem_cons_succ]
        try simp only [List.getElem_cons_zero]
        try simp only [Act.put]
        try simp only [List.setIfInBounds_toArray]
        try simp only [List.set]
        refine wpAnyH_take (i := 12) (v := ?v35) rfl (by kernel_rfl) (by kernel_rfl) (by kernel_rfl) (fun _ _ _ h => h) (Or.inl ⟨by kernel_rfl, ?h35⟩) hHeld ?_
        case h35 => intro u hSw; (obtain ⟨-, c0, c1, -, -⟩ := hSw.1; obtain ⟨f0, f1, f2, f3, f4, f5, f6⟩ := hSw.2.1; obtain ⟨r0, r1, r2, r3, r4, r5, r6⟩ := hSw.2.2; dsimp only at f0 f1 f2 f3 f4 f5 f6 r0 r1 r2 r3 r4 r5 r6); clear hSw; go_simp; try with_reducible rfl
        try simp only [List.getElem_toArray]
        try simp only [List.getElem_cons_succ]
        try simp only [List.getElem_cons_zero]
        try simp only [Act.put]
        try simp only [List.setIfInBounds_toArray]
        try simp only [List.set]
        refine wpAnyH_take (i := 13) (v := ?v36) rfl (by kernel_rfl) (by kernel_rfl) (by kernel_rfl) (fun _ _ _ h => h) (Or.inl ⟨by kernel_rfl, ?h36⟩) hHeld ?_
        case h36 => intro u hSw; (obtain ⟨-, c0, c1, -, -⟩ := hSw.1; obtain ⟨f0, f1, f2, f3, f4, f5, f6⟩ := hSw.2.1; obtain ⟨r0, r1, r2, r3, r4, r5, r6⟩ := hSw.2.2; dsimp only at f0 f1 f2 f3 f4 f5 f6 r0 r1 r2 r3 r4 r5 r6); clear hSw; go_simp; try with_reducible rfl
        try simp only [List.getElem_toArray]
        try simp only [List.getElem_cons_succ]
        try simp only [List.getElem_cons_zero]
        try simp only [Act.put]
        try simp only [List.setIfInBounds_toArray]
        try simp only [List.set]
        refine wpAnyH_take (i := 15) (v := ?v37) rfl (by kernel_rfl) (by kernel_rfl) (by kernel_rfl) (fun _ _ _ h => h) (Or.inl ⟨by kernel_rfl, ?h37⟩) hHeld ?_
        case h37 => intro u hSw; (obtain ⟨-, c0, c1, -, -⟩ := hSw.1; obtain ⟨f0, f1, f2, f3, f4, f5, f6⟩ := hSw.2.1; obtain ⟨r0, r1, r2, r3, r4, r5, r6⟩ := hSw.2.2; dsimp only at f0 f1 f2 f3 f4 f5 f6 r0 r1 r2 r3 r4 r5 r6); clear hSw; go_simp; try with_reducible rfl
        try simp only [List.getElem_toArray]
        try simp only [List.getElem_cons_succ]
        try simp only [List.getElem_cons_zero]
        try simp only [Act.put]
        try simp only [List.setIfInBounds_toArray]
        try simp only [List.set]
        refine wpAnyH_take (i := 14) (v := ?v38) rfl (by kernel_rfl) (by kernel_rfl) (by kernel_rfl) (fun _ _ _ h => h) (Or.inl ⟨by kernel_rfl, ?h38⟩) hHeld ?_
        case h38 => intro u hSw; (obtain ⟨-, c0, c1, -, -⟩ := hSw.1; obtain ⟨f0, f1, f2, f3, f4, f5, f6⟩ := hSw.2.1; obtain ⟨r0, r1, r2, r3, r4, r5, r6⟩ := hSw.2.2; dsimp only at f0 f1 f2 f3 f4 f5 f6 r0 r1 r2 r3 r4 r5 r6); clear hSw; go_simp; try with_reducible rfl
        try simp only [List.getElem_toArray]
        try simp only [List.getElem_cons_succ]
        try simp only [List.getElem_cons_zero]
        try simp only [Act.put]
        try simp only [List.setIfInBounds_toArray]
        try simp only [List.set]
        refine wpAnyH_take (i := 16) (v := ?v39) rfl (by kernel_rfl) (by kernel_rfl) (by kernel_rfl) (fun _ _ _ h => h) (Or.inl ⟨by kernel_rfl, ?h39⟩) hHeld ?_
        case h39 => intro u hSw; (obtain ⟨-, c0, c1, -, -⟩ := hSw.1; obtain ⟨f0, f1, f2, f3, f4, f5, f6⟩ := hSw.2.1; obtain ⟨r0, r1, r2, r3, r4, r5, r6⟩ := hSw.2.2; dsimp only at f0 f1 f2 f3 f4 f5 f6 r0 r1 r2 r3 r4 r5 r6); clear hSw; go_simp; try with_reducible rfl
        try simp only [List.getElem_toArray]
        try simp only [List.getElem_cons_succ]
        try simp only [List.getElem_cons_zero]
        try simp only [Act.put]
        try simp only [List.setIfInBounds_toArray]
        try simp only [List.set]
        refine wpAnyH_take (i := 17) (v := ?v40) rfl (by kernel_rfl) (by kernel_rfl) (by kernel_rfl) (fun _ _ _ h => h) (Or.inl ⟨by kernel_rfl, ?h40⟩) hHeld ?_
        case h40 => intro u hSw; (obtain ⟨-, c0, c1, -, -⟩ := hSw.1; obtain ⟨f0, f1, f2, f3, f4, f5, f6⟩ := hSw.2.1; obtain ⟨r0, r1, r2, r3, r4, r5, r6⟩ := hSw.2.2; dsimp only at f0 f1 f2 f3 f4 f5 f6 r0 r1 r2 r3 r4 r5 r6); clear hSw; go_simp; try with_reducible rfl
        try simp only [List.getElem_toArray]
        try simp only [List.getElem_cons_succ]
        try simp only [List.getElem_cons_zero]
        try simp only [Act.put]
        try simp only [List.setIfInBounds_toArray]
        try simp only [List.set]
        refine wpAnyH_take (i := 18) (v := ?v41) rfl (by kernel_rfl) (by kernel_rfl) (by kernel_rfl) (fun _ _ _ h => h) (Or.inl ⟨by kernel_rfl, ?h41⟩) hHeld ?_
        case h41 => intro u hSw; (obtain ⟨-, c0, c1, -, -⟩ := hSw.1; obtain ⟨f0, f1, f2, f3, f4, f5, f6⟩ := hSw.2.1; obtain ⟨r0, r1, r2, r3, r4, r5, r6⟩ := hSw.2.2; dsimp only at f0 f1 f2 f3 f4 f5 f6 r0 r1 r2 r3 r4 r5 r6); clear hSw; go_simp; try with_reducible rfl
        try simp only [List.getElem_toArray]
        try simp only [List.getElem_cons_succ]
        try simp only [List.getElem_cons_zero]
        try simp only [Act.put]
        try simp only [List.setIfInBounds_toArray]
        try simp only [List.set]
        refine wpAnyH_take (i := 19) (v := ?v42) rfl (by kernel_rfl) (by kernel_rfl) (by kernel_rfl) (fun _ _ _ h => h) (Or.inl ⟨by kernel_rfl, ?h42⟩) hHeld ?_
        case h42 => intro u hSw; (obtain ⟨-, c0, c1, -, -⟩ := hSw.1; obtain ⟨f0, f1, f2, f3, f4, f5, f6⟩ := hSw.2.1; obtain ⟨r0, r1, r2, r3, r4, r5, r6⟩ := hSw.2.2; dsimp only at f0 f1 f2 f3 f4 f5 f6 r0 r1 r2 r3 r4 r5 r6); clear hSw; go_simp; try with_reducible rfl
        try simp only [List.getElem_toArray]
        try simp only [List.getElem_cons_succ]
        try simp only [List.getElem_cons_zero]
        try simp only [Act.put]
        try simp only [List.setIfInBounds_toArray]
        try simp only [List.set]
        refine wpAnyH_take (i := 20) (v := ?v43) rfl (by kernel_rfl) (by kernel_rfl) (by kernel_rfl) (fun _ _ _ h => h) (Or.inl ⟨by kernel_rfl, ?h43⟩) hHeld ?_
        case h43 => intro u hSw; (obtain ⟨-, c0, c1, -, -⟩ := hSw.1; obtain ⟨f0, f1, f2, f3, f4, f5, f6⟩ := hSw.2.1; obtain ⟨r0, r1, r2, r3, r4, r5, r6⟩ := hSw.2.2; dsimp only at f0 f1 f2 f3 f4 f5 f6 r0 r1 r2 r3 r4 r5 r6); clear hSw; go_simp; try with_reducible rfl
        try simp only [List.getElem_toArray]
        try simp only [List.getElem_cons_succ]
        try simp only [List.getElem_cons_zero]
        try simp only [Act.put]
        try simp only [List.setIfInBounds_toArray]
        try simp only [List.set]
        refine wpAnyH_take (i := 22) (v := ?v44) rfl (by kernel_rfl) (by kernel_rfl) (by kernel_rfl) (fun _ _ _ h => h) (Or.inl ⟨by kernel_rfl, ?h44⟩) hHeld ?_
        case h44 => intro u hSw; (obtain ⟨-, c0, c1, -, -⟩ := hSw.1; obtain ⟨f0, f1, f2, f3, f4, f5, f6⟩ := hSw.2.1; obtain ⟨r0, r1, r2, r3, r4, r5, r6⟩ := hSw.2.2; dsimp only at f0 f1 f2 f3 f4 f5 f6 r0 r1 r2 r3 r4 r5 r6); clear hSw; go_simp; try with_reducible rfl
        try simp only [List.getElem_toArray]
        try simp only [List.getElem_cons_succ]
        try simp only [List.getElem_cons_zero]
        try simp only [Act.put]
        try simp only [List.setIfInBounds_toArray]
        try simp only [List.set]
        refine wpAnyH_take (i := 21) (v := ?v45) rfl (by kernel_rfl) (by kernel_rfl) (by kernel_rfl) (fun _ _ _ h => h) (Or.inl ⟨by kernel_rfl, ?h45⟩) hHeld ?_
        case h45 => intro u hSw; (obtain ⟨-, c0, c1, -, -⟩ := hSw.1; obtain ⟨f0, f1, f2, f3, f4, f5, f6⟩ := hSw.2.1; obtain ⟨r0, r1, r2, r3, r4, r5, r6⟩ := hSw.2.2; dsimp only at f0 f1 f2 f3 f4 f5 f6 r0 r1 r2 r3 r4 r5 r6); clear hSw; go_simp; try with_reducible rfl
        try simp only [List.getElem_toArray]
        try simp only [List.getElem_cons_succ]
        try simp only [List.getElem_cons_zero]
        try simp only [Act.put]
        try simp only [List.setIfInBounds_toArray]
        try simp only [List.set]
        refine wpAnyH_take (i := 23) (v := ?v46) rfl (by kernel_rfl) (by kernel_rfl) (by kernel_rfl) (fun _ _ _ h => h) (Or.inl ⟨by kernel_rfl, ?h46⟩) hHeld ?_
        case h46 => intro u hSw; (obtain ⟨-, c0, c1, -, -⟩ := hSw.1; obtain ⟨f0, f1, f2, f3, f4, f5, f6⟩ := hSw.2.1; obtain ⟨r0, r1, r2, r3, r4, r5, r6⟩ := hSw.2.2; dsimp only at f0 f1 f2 f3 f4 f5 f6 r0 r1 r2 r3 r4 r5 r6); clear hSw; go_simp; try with_reducible rfl
        try simp only [List.getElem_toArray]
        try simp only [List.getElem_cons_succ]
        try simp only [List.getElem_cons_zero]
        try simp only [Act.put]
        try simp only [List.setIfInBounds_toArray]
        try simp only [List.set]
        refine wpAnyH_take (i := 24) (v := ?v47) rfl (by kernel_rfl) (by kernel_rfl) (by kernel_rfl) (fun _ _ _ h => h) (Or.inl ⟨by kernel_rfl, ?h47⟩) hHeld ?_
        case h47 => intro u hSw; (obtain ⟨-, c0, c1, -, -⟩ := hSw.1; obtain ⟨f0, f1, f2, f3, f4, f5, f6⟩ := hSw.2.1; obtain ⟨r0, r1, r2, r3, r4, r5, r6⟩ := hSw.2.2; dsimp only at f0 f1 f2 f3 f4 f5 f6 r0 r1 r2 r3 r4 r5 r6); clear hSw; go_simp; try with_reducible rfl
        try simp only [List.getElem_toArray]
        try simp only [List.getElem_cons_succ]
        try simp only [List.getElem_cons_zero]
        try simp only [Act.put]
        try simp only [List.setIfInBounds_toArray]
        try simp only [List.set]
        refine wpAnyH_take (i := 25) (v := ?v48) rfl (by kernel_rfl) (by kernel_rfl) (by kernel_rfl) (fun _ _ _ h => h) (Or.inl ⟨by kernel_rfl, ?h48⟩) hHeld ?_
        case h48 => intro u hSw; (obtain ⟨-, c0, c1, -, -⟩ := hSw.1; obtain ⟨f0, f1, f2, f3, f4, f5, f6⟩ := hSw.2.1; obtain ⟨r0, r1, r2, r3, r4, r5, r6⟩ := hSw.2.2; dsimp only at f0 f1 f2 f3 f4 f5 f6 r0 r1 r2 r3 r4 r5 r6); clear hSw; go_simp; try with_reducible rfl
        try simp only [List.getElem_toArray]
        try simp only [List.getElem_cons_succ]
        try simp only [List.getElem_cons_zero]
        try simp only [Act.put]
        try simp only [List.setIfInBounds_toArray]
        try simp only [List.set]
        refine wpAnyH_take (i := 26) (v := ?v49) rfl (by kernel_rfl) (by kernel_rfl) (by kernel_rfl) (fun _ _ _ h => h) (Or.inl ⟨by kernel_rfl, ?h49⟩) hHeld ?_
        case h49 => intro u hSw; (obtain ⟨-, c0, c1, -, -⟩ := hSw.1; obtain ⟨f0, f1, f2, f3, f4, f5, f6⟩ := hSw.2.1; obtain ⟨r0, r1, r2, r3, r4, r5, r6⟩ := hSw.2.2; dsimp only at f0 f1 f2 f3 f4 f5 f6 r0 r1 r2 r3 r4 r5 r6); clear hSw; go_simp; try with_reducible rfl
        try simp only [List.getElem_toArray]
        try simp only [List.getElem_cons_succ]
        try simp only [List.getElem_cons_zero]
        try simp only [Act.put]
        try simp only [List.setIfInBounds_toArray]
        try simp only [List.set]
        refine wpAnyH_done (by kernel_rfl) ?_ _
        go_wp2_with fail
        go_ret
        exact ⟨rfl, hHeld.1.g⟩

end Go.Proofs.YtdgonddimenmdaaGreat
