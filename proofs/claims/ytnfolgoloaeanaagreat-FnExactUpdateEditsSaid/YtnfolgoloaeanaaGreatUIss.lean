/-
  The program's SetSlot, where there is a cell.
-/
import Derived.Test.YtnfolgoloaeanaaGreatULpi
import Derived.Test.YtnfolgoloaeanaaGreatULpu
import Derived.Test.YtnfolgoloaeanaaGreatUBas
import Derived.Test.YtnfolgoloaeanaaGreatUDrf
import Derived.Test.YtnfolgoloaeanaaGreatUPea
import Derived.Defers
import Derived.Test.YtnfolgoloaeanaaGreatULpl
import Derived.Recover

namespace Go.Proofs.YtnfolgoloaeanaaGreat
open Go.RowKit
set_option linter.unusedVariables false
set_option maxRecDepth 20000

/-- What SetSlot hands back. -/
def SsF (zs cs : List Int) (s n : Nat) (w : World) (e : Ending) (w' : World) : Prop := Below w.heap.size w w' ∧ (setQ zs s n = 0 → ∃ g, e = .returned (.agg #[.int .i64 0, .int .i64 0, .slice (some ⟨g, 0, none⟩) 64 64]) ∧ w.heap.size ≤ g ∧ Arr w' g (setP zs s cs)) ∧ (setQ zs s n ≠ 0 → e = .returned (.agg #[.int .i64 (setQ zs s n), .int .i64 0, .slice none 0 0]))
theorem SsF.ok {zs cs ys : List Int} {s n g : Nat} {w w' : World} (h : setQ zs s n = 0 ∧ setP zs s cs = ys) (gB : Below w.heap.size w w') (hgw : w.heap.size ≤ g) (hA : Arr w' g ys) : SsF zs cs s n w (.returned (.agg #[.int .i64 0, .int .i64 0, .slice (some ⟨g, 0, none⟩) 64 64])) w' :=
  ⟨gB, fun _ => ⟨g, rfl, hgw, by rw [h.2]; exact hA⟩, fun hq => absurd h.1 hq⟩
theorem SsF.bad {zs cs : List Int} {s n : Nat} {q : Int} {w w' : World} (h : setQ zs s n = q) (hq : q ≠ 0) (gB : Below w.heap.size w w') : SsF zs cs s n w (.returned (.agg #[.int .i64 q, .int .i64 0, .slice none 0 0])) w' :=
  ⟨gB, fun h0 => absurd (h.symm.trans h0) hq, fun _ => by rw [h]⟩
structure SeS (w : World) (b yb l : Nat) (zs : List Int) (V : World) : Prop where
  a : Arr V b zs
  y : V.cell? ⟨yb, 1, none⟩ = some (.int .u64 l)
  x : PRes V w.heap.size 0 0 (.slice none 0 0)
  g : Below w.heap.size w V
theorem SeS.up {w : World} {b yb l : Nat} {zs : List Int} {V V' : World} (h : SeS w b yb l zs V) (hb : Below V.heap.size V V') : SeS w b yb l zs V' :=
  ⟨h.a.grown hb, (hb.cell (p := ⟨yb, 1, none⟩) (World.block_lt_of_cell? V _ h.y)).trans h.y, h.x.grown hb, h.g.trans (hb.mono h.g.size)⟩
/-- The page that is turned ahead of low is the one of setP. -/
theorem aheadP_setP (zs : List Int) (s : Nat) (cs : List Int) (h : IsPg zs) (hp : cs.length + 1 < nb zs 1) (h64 : nb zs 1 ≤ 64) : aheadP zs s cs = spanSet (splice (zs.set 1 ((nb zs 1 - cs.length : Nat) : Int)) (nb zs 1 - cs.length) cs) s (nb zs 1 - cs.length) cs.length := by
  unfold aheadP
  rw [span_set1, splice_set1 _ _ _ _ (by omega) (by rw [h.len]; omega)]

set_option maxHeartbeats 8000000 in
theorem setSlot_f (a : Option Addr) (zs cs : List Int) (c s cb so n d : Nat) (w : World) (hF : Fine zs) (hc : 64 ≤ c) (hr : Reads w a zs) (hh : hasC zs s = true) (hn : cs.length = n) (h1 : 1 ≤ n) (h20 : n ≤ 20) (hb : ∀ z ∈ cs, 0 ≤ z ∧ z ≤ 255) (hrc : Reads w (some ⟨cb, so, none⟩) cs) :
    Calls Tryz.prog 173 #[.slice a 64 c, .int .i64 s, .slice (some ⟨cb, so, none⟩) n d] w fun e w' => SsF zs cs s n w e w' := by
  have hX : PRes (w.alloc (.cells #[.int .i64 0, .int .i64 0, .slice none 0 0] 146)) w.heap.size 0 0 (.slice none 0 0) := ⟨by simp [go_sem], by simp [go_sem], by simp [go_sem], by simp [go_sem], by simp [go_sem], by simp [go_sem]⟩
  have g : Below w.heap.size w (w.alloc (.cells #[.int .i64 0, .int .i64 0, .slice none 0 0] 146)) := by go_grown
  have hr := hr.below g (Nat.le_refl _)
  have HC : Hid (∀ V, Below w.heap.size w V → Reads V (some ⟨cb, so, none⟩) cs) := fun V hV => hrc.below hV (Nat.le_refl _)
  obtain ⟨X, hX0⟩ : ∃ X, w.alloc (.cells #[.int .i64 0, .int .i64 0, .slice none 0 0] 146) = X := ⟨_, rfl⟩
  rw [hX0] at hX g hr
  have hcon := loadPageAndCell_any a zs 64 c (some ⟨cb, so, none⟩) n d X hF.pg.len (by omega) hc hr hF.pg.bd (by omega)
  have hlc : lcQ zs n = 0 := by unfold lcQ cellQ; rw [if_pos hF.flt, if_pos (by simp [inR]; omega)]
  rw [hlc, pg, if_pos hF.pg.len] at hcon
  obtain ⟨hs, hem⟩ := (hasC_iff s).1 hh
  have hfew := hF.few
  have hs16 : s < 16 := by omega
  have hd := hF.dirs
  have hlow := hd.low
  have hdir := hd.dir
  have hpl' := hd.place s hs
  have hlz := emp_ln hF hs hem
  clear hlc hrc hd
  go_enter Tryz.func173, Tryz.ntmps173
  go_wp2_with fail
  refine hcon.mono ?_
  rintro e w1 ⟨rfl, g1⟩
  have hX1 := hX.grown g1
  have g : Below w.heap.size w w1 := g.trans (g1.mono g.size)
  clear hX0 hX g1 hr hcon
  have hpl := hF.pg.len
  go_upto_region 2 with (refine wpList_storePg rfl _ _ rfl _ zs rfl rfl hpl (filled 0 0) (arr_new _ (filled 0 0) rfl) ?_)
  generalize hZ : World.setRow _ w1.heap.size (pgC zs) = Z
  have hA : Arr Z w1.heap.size zs := by rw [← hZ]; exact (arr_new w1 (filled 0 0) rfl).put hpl
  have gZ : Below w1.heap.size w1 Z := by rw [← hZ]; exact setRow_below ((Below.refl _ _).alloc (Nat.le_refl _) _) (Nat.le_refl _) _
  have hX2 := hX1.grown gZ
  have g : Below w.heap.size w Z := g.trans (gZ.mono g.size)
  have hlt := hX1.lt
  clear hZ gZ hX1
  generalize w1.heap.size = b at hA hlt
  have hcl := cellAt_any zs s Z hF.pg hF.few (by simp [Lit.wf, IntKind.min, IntKind.max, IntKind.bits, IntKind.signed]; omega)
  rw [hh] at hcl
  go_wp2_with (refine wpList_loadPg rfl _ rfl _ rfl zs (by assumption) ?_)
  refine hcl.mono ?_
  rintro e w2 ⟨⟨p, l, rfl, hpq⟩, g2⟩
  have HLn : Hid (ln zs s = l) := (hpq trivial).2.symm
  have HPl : Hid (pl zs s = p) := (hpq trivial).1.symm
  have hpe : p + l ≤ 64 := by rw [← HLn.out, ← HPl.out]; rcases hpl' with h | h <;> omega
  clear hpl'
  have hA2 := hA.grown g2
  have hX3 := hX2.grown g2
  have g : Below w.heap.size w w2 := g.trans (g2.mono g.size)
  clear hcl g2 hA hX2 hpq
  go_upto_region 5 with (fail)
  generalize hY : World.alloc w2 _ = Y
  have gY : Below w2.heap.size w2 Y := by rw [← hY]; go_grown
  have y0 : Y.cell? ⟨w2.heap.size, 0, none⟩ = some (.int .u64 p) := by rw [← hY]; simp [go_sem]
  have y1 : Y.cell? ⟨w2.heap.size, 1, none⟩ = some (.int .u64 l) := by rw [← hY]; simp [go_sem]
  have hA3 := hA2.grown gY
  have hX4 := hX3.grown gY
  have g : Below w.heap.size w Y := g.trans (gY.mono g.size)
  clear hY gY hA2 hX3
  generalize w2.heap.size = yb at y0 y1 ⊢
  have hn64 : (n : Int) ≤ 20 := by omega
  by_cases hle : n ≤ l
  · have HQ0 : Hid (setQ zs s n = 0 ∧ setP zs s cs = spanSet (splice zs (p + l - n) cs) s (p + l - n) n) := by
      refine ⟨?_, ?_⟩
      · unfold setQ; rw [if_pos (by rw [HLn.out]; exact hle)]
      · unfold setP; rw [if_pos (by rw [hn, HLn.out]; exact hle), HLn.out, HPl.out, hn]
    have dle : (n : Int) ≤ (l : Int) := by omega
    go_wp2_with fail
    refine (spanEnd_any p l _ (by omega) (by omega)).mono ?_
    rintro e w3 ⟨rfl, g3⟩
    have hA4 := hA3.grown g3
    have hX5 := hX4.grown g3
    have g : Below w.heap.size w w3 := g.trans (g3.mono g.size)
    clear y0 y1 g3 hA3 hX4
    have hwc := writeCell_any b s (p + l - n) n cb so d zs cs w3 hA4 hn h1 (by omega) (by omega) (HC.out _ g)
    rw [show p + l - n + n = p + l by omega] at hwc
    go_wp2_with (go_at_call 196; refine hwc.mono ?_)
    rintro e w4 ⟨rfl, t4, hA5⟩
    have hX6 := hX5.turned t4 (.inl hlt)
    have g : Below w.heap.size w w4 := g.trans (t4.toBelow g.size (by omega))
    clear hwc t4 hA4 hX5
    have hb5 := hA5.lt
    have hx5 := hX6.lt
    have HA5 : Hid (Arr (((w4.setCell ⟨w.heap.size, 0, none⟩ (.int .i64 0)).setCell ⟨w.heap.size, 1, none⟩ (.int .i64 0)).setCell ⟨w.heap.size, 2, none⟩ (.slice (some ⟨b, 0, none⟩) 64 64)) b (spanSet (splice zs (p + l - n) cs) s (p + l - n) n)) := ((hA5.other _ _ (by simp; omega)).other _ _ (by simp; omega)).other _ _ (by simp; omega)
    clear hA5
    obtain ⟨c0, c1, c2, f0, f1, f2⟩ := hX6
    go_wp2_with fail
    refine bodyPost_ret (v := .agg #[.int .i64 0, .int .i64 0, .slice (some ⟨b, 0, none⟩) 64 64]) (by simp [results, Tryz.results173, go_sem, c0, c1, c2]) rfl ?_
    exact SsF.ok HQ0.out (by go_grown) (by omega) HA5.out
  · have hl' : ¬ n ≤ ln zs s := by rw [HLn.out]; exact hle
    have dle : ¬ (n : Int) ≤ (l : Int) := by omega
    obtain ⟨f, hf⟩ : ∃ f, f = freeN zs := ⟨_, rfl⟩
    have HFr : Hid (62 - 2 * nb zs 0 - lens zs (nb zs 0) = f) := hf.symm
    have hf64 : f ≤ 64 := by rw [hf]; unfold freeN; omega
    obtain ⟨k, hk⟩ : ∃ k, k = nb zs 0 := ⟨_, rfl⟩
    obtain ⟨lo, hlo⟩ : ∃ lo, lo = nb zs 1 := ⟨_, rfl⟩
    have HK : Hid (nb zs 0 = k) := hk.symm
    have HLo : Hid (nb zs 1 = lo) := hlo.symm
    have HQ9 : Hid (f + l < n → setQ zs s n = 9) := fun h9 => by unfold setQ; rw [if_neg hl', if_pos (by rw [HLn.out, ← hf]; exact h9)]
    have HQ8 : Hid (¬ f + l < n → lo < 2 + 2 * k + n → setQ zs s n = 8) := fun h9 h8 => by unfold setQ; rw [if_neg hl', if_neg (by rw [HLn.out, ← hf]; exact h9), if_pos (by rw [HK.out, HLo.out]; exact h8)]
    have HQ0 : Hid (¬ f + l < n → ¬ lo < 2 + 2 * k + n → setQ zs s n = 0 ∧ setP zs s cs = aheadP zs s cs) := fun h9 h8 => by
      refine ⟨?_, ?_⟩
      · unfold setQ; rw [if_neg hl', if_neg (by rw [HLn.out, ← hf]; exact h9), if_neg (by rw [HK.out, HLo.out]; exact h8)]
      · unfold setP; rw [if_neg (by rw [hn]; exact hl'), aheadP_setP zs s cs hF.pg (by rw [hn]; omega) hF.low]
    rw [← hk] at hfew hdir hs
    rw [← hlo] at hlow hdir
    obtain ⟨dd, hdd⟩ : ∃ dd, dd = 2 + 2 * k := ⟨_, rfl⟩
    have HD : Hid (2 + 2 * k = dd) := hdd.symm
    have hd40 : dd ≤ 40 := by omega
    have hw1 : IntKind.u64.wrap ((f : Int) + (l : Int)) = (f : Int) + l := wrapU _ (by omega) (by omega)
    have hw2 : IntKind.u64.wrap ((dd : Int) + (n : Int)) = (dd : Int) + n := wrapU _ (by omega) (by omega)
    have hddk : Hid (dd = 2 + 2 * k) := hdd
    clear hl' hf hk hlo hdd
    go_upto_region 11 with (fail)
    refine wp_region_held_drew (S := SeS w b yb l zs) (by kernel_rfl) (SeS.up ⟨hA3, y1, hX4, g⟩ (Below.refl _ _).drew) (fun hHeld => ?_)
    clear hA3 hX4 g y0 y1
    generalize Y.drew = V0 at hHeld ⊢
    refine tkH (i := 0) (v := .agg (pgC zs)) rfl (yieldsIf_loadPg (by kernel_rfl) _ rfl b rfl zs (fun W hS => hS.a)) hHeld ?_
    try simp only [Act.put, tdy]
    refine tkH (i := 2) (v := ?v1) rfl (Or.inl ⟨by kernel_rfl, ?h1⟩) hHeld ?_
    case h1 => intro u hSw; clear hSw; go_simp; try with_reducible rfl
    try simp only [Act.put, tdy]
    refine tkH (i := 3) (v := ?v2) rfl (Or.inl ⟨by kernel_rfl, ?h2⟩) hHeld ?_
    case h2 => intro u hSw; have hy := hSw.y; clear hSw; go_simp; try with_reducible rfl
    try simp only [Act.put, tdy]
    refine tkH (i := 5) (v := ?v3) rfl (Or.inl ⟨by kernel_rfl, ?h3⟩) hHeld ?_
    case h3 => intro u hSw; clear hSw; go_simp; try with_reducible rfl
    try simp only [Act.put, tdy]
    refine wpAnyH_ready (rs := [1]) (by kernel_rfl) (by simp) ?_
    refine AllReadyH.cons rfl (fun K hK => ?_) AllReadyH.nil
    go_simp
    go_wp2_with (go_at_call 152; refine (free_any zs _ hF.pg hF.few hF.sum).mono ?_; rintro e W1 ⟨rfl, gb⟩; rw [HFr.out])
    refine hK.out _ _ (hHeld.up gb) (fun hHeld => ?_)
    clear hK K
    clear gb
    try simp only [Act.put, tdy]
    refine tkH (i := 4) (v := ?v4) rfl (Or.inl ⟨by kernel_rfl, ?h4⟩) hHeld ?_
    case h4 => intro u hSw; clear hSw; go_simp; try with_reducible rfl
    try simp only [Act.put, tdy]
    refine tkH (i := 6) (v := ?v5) rfl (Or.inl ⟨by kernel_rfl, ?h5⟩) hHeld ?_
    case h5 => intro u hSw; clear hSw; go_simp; try with_reducible rfl
    try simp only [Act.put, tdy]
    refine wpAnyH_done (by kernel_rfl) ?_ _
    by_cases hfl : f + l < n
    · have dfl : (f : Int) + (l : Int) < (n : Int) := by omega
      obtain ⟨hA6, _, hX6, g⟩ := hHeld
      have hx5 := hX6.lt
      obtain ⟨c0, c1, c2, f0, f1, f2⟩ := hX6
      have HQ : Hid (setQ zs s n = 9) := HQ9.out hfl
      clear hA6 HQ9 HQ8 HQ0 hw1 hw2
      go_wp2_with fail
      refine bodyPost_ret (v := .agg #[.int .i64 9, .int .i64 0, .slice none 0 0]) (by simp [results, Tryz.results173, go_sem, c0, c1, c2]) rfl ?_
      exact SsF.bad HQ.out (by decide) (by go_grown)
    · have dfl : ¬ (f : Int) + (l : Int) < (n : Int) := by omega
      go_upto_region 13 with (fail)
      refine wp_region_held_drew (S := SeS w b yb l zs) (by kernel_rfl) (hHeld.up (Below.refl _ _).drew) (fun hHeld => ?_)
      generalize World.drew _ = V1 at hHeld ⊢
      refine tkH (i := 0) (v := .agg (pgC zs)) rfl (yieldsIf_loadPg (by kernel_rfl) _ rfl b rfl zs (fun W hS => hS.a)) hHeld ?_
      try simp only [Act.put, tdy]
      refine tkH (i := 2) (v := .agg (pgC zs)) rfl (yieldsIf_loadPg (by kernel_rfl) _ rfl b rfl zs (fun W hS => hS.a)) hHeld ?_
      try simp only [Act.put, tdy]
      refine tkH (i := 5) (v := ?v6) rfl (Or.inl ⟨by kernel_rfl, ?h6⟩) hHeld ?_
      case h6 => intro u hSw; clear hSw; go_simp; try with_reducible rfl
      try simp only [Act.put, tdy]
      refine wpAnyH_ready (rs := [1]) (by kernel_rfl) (by simp) ?_
      refine AllReadyH.cons rfl (fun K hK => ?_) AllReadyH.nil
      go_simp
      go_wp2_with (go_at_call 154; refine (low_any zs _ hF.pg).mono ?_; rintro e W2 ⟨rfl, gb⟩; rw [HLo.out])
      refine hK.out _ _ (hHeld.up gb) (fun hHeld => ?_)
      clear hK K
      clear gb
      try simp only [Act.put, tdy]
      refine wpAnyH_ready (rs := [3]) (by kernel_rfl) (by simp) ?_
      refine AllReadyH.cons rfl (fun K hK => ?_) AllReadyH.nil
      go_simp
      go_wp2_with (go_at_call 151; refine (slots_any zs _ hF.pg).mono ?_; rintro e W3 ⟨rfl, gb⟩; rw [HK.out])
      refine hK.out _ _ (hHeld.up gb) (fun hHeld => ?_)
      clear hK K
      clear gb
      try simp only [Act.put, tdy]
      refine wpAnyH_ready (rs := [4]) (by kernel_rfl) (by simp) ?_
      refine AllReadyH.cons rfl (fun K hK => ?_) AllReadyH.nil
      go_simp
      go_wp2_with (go_at_call 153; refine (dirEnd_any k _ (by omega)).mono ?_; rintro e W4 ⟨rfl, hw4⟩; subst W4; rw [HD.out])
      refine hK.out _ _ (hHeld) (fun hHeld => ?_)
      clear hK K
      try simp only [Act.put, tdy]
      refine tkH (i := 6) (v := ?v7) rfl (Or.inl ⟨by kernel_rfl, ?h7⟩) hHeld ?_
      case h7 => intro u hSw; clear hSw; go_simp; try with_reducible rfl
      try simp only [Act.put, tdy]
      refine tkH (i := 7) (v := ?v8) rfl (Or.inl ⟨by kernel_rfl, ?h8⟩) hHeld ?_
      case h8 => intro u hSw; clear hSw; go_simp; try with_reducible rfl
      try simp only [Act.put, tdy]
      refine wpAnyH_done (by kernel_rfl) ?_ _
      by_cases hlw : lo < 2 + 2 * k + n
      · have dlw : (lo : Int) < (dd : Int) + (n : Int) := by have := hddk.out; omega
        obtain ⟨hA6, _, hX6, g⟩ := hHeld
        have hx5 := hX6.lt
        obtain ⟨c0, c1, c2, f0, f1, f2⟩ := hX6
        have HQ : Hid (setQ zs s n = 8) := HQ8.out hfl hlw
        clear hA6 HQ9 HQ8 HQ0 hw1 hw2
        go_wp2_with fail
        refine bodyPost_ret (v := .agg #[.int .i64 8, .int .i64 0, .slice none 0 0]) (by simp [results, Tryz.results173, go_sem, c0, c1, c2]) rfl ?_
        exact SsF.bad HQ.out (by decide) (by go_grown)
      · have dlw : ¬ (lo : Int) < (dd : Int) + (n : Int) := by have := hddk.out; omega
        have HQ : Hid (setQ zs s n = 0 ∧ setP zs s cs = aheadP zs s cs) := HQ0.out hfl hlw
        obtain ⟨hA6, _, hX6, g⟩ := hHeld
        clear HQ9 HQ8 HQ0 hw1 hw2
        go_wp2_with fail
        refine (writeAhead_any b s n cb so d zs cs _ hA6 hF.pg hb hn h1 (by rw [HLo.out]; omega) hF.low (by omega) (HC.out _ g)).mono ?_
        rintro e w4 ⟨rfl, t4, hA5⟩
        have hX7 := hX6.turned t4 (.inl hlt)
        have g : Below w.heap.size w w4 := g.trans (t4.toBelow g.size (by omega))
        clear t4 hA6 hX6
        have hb5 := hA5.lt
        have hx5 := hX7.lt
        have HA5 : Hid (Arr (((w4.setCell ⟨w.heap.size, 0, none⟩ (.int .i64 0)).setCell ⟨w.heap.size, 1, none⟩ (.int .i64 0)).setCell ⟨w.heap.size, 2, none⟩ (.slice (some ⟨b, 0, none⟩) 64 64)) b (aheadP zs s cs)) := ((hA5.other _ _ (by simp; omega)).other _ _ (by simp; omega)).other _ _ (by simp; omega)
        clear hA5
        obtain ⟨c0, c1, c2, f0, f1, f2⟩ := hX7
        go_wp2_with fail
        refine bodyPost_ret (v := .agg #[.int .i64 0, .int .i64 0, .slice (some ⟨b, 0, none⟩) 64 64]) (by simp [results, Tryz.results173, go_sem, c0, c1, c2]) rfl ?_
        exact SsF.ok HQ.out (by go_grown) (by omega) HA5.out


set_option maxHeartbeats 4000000 in
theorem compact_any (sb : Nat → Prop) (B : Nat → Option Obj) (n₀ : Nat) (X : World) (ob : Nat) (es : List (Int × List Int)) (cur : List (List Int)) (x1 : Option Addr) (k1 : Nat) (V1 : List Value) (x2 : Option Addr) (k2 : Nat) (V2 : List Value) (pn : Nat) (old : List Int) (w : World) (hS : HpX sb B n₀ X ob es cur x1 k1 V1 x2 k2 V2 w) (hok : okP cur) (hc12 : cur.length ≤ 12) (hel : es.length ≤ 900) (hp : cur[pn]? = some old) :
    Calls Tryz.prog 105 #[.pointer (some ⟨ob, 0, none⟩), .int .i64 pn] w fun e w' => TxPost sb B n₀ X ob (tnE es cur pn (cpL old)) (wpL cur pn (cpL old)) e w' := by
  have fp2 : ∀ (q s : Int) (p : Option Addr) (n c : Nat) (W : World), (Instr.field 146 (.agg #[.int .i64 q, .int .i64 s, .slice p n c]) 2).run Tryz.prog W = .ok (.slice p n c) W := fun _ _ _ _ _ _ => by kernel_rfl
  have hpl : pn < cur.length := (List.getElem?_eq_some_iff.1 hp).1
  have hF := hok.at hp
  have hl64 := hF.pg.len
  have hCf : Fine (cpL old) := fine_compact hF
  obtain ⟨gp, ay, cy, rfl, c8, hyr, hyl⟩ := hS.page hp
  rw [hl64] at c8 hyl
  have hcq : cqQ old = 0 := hF.flt
  have hcb : cqB old = cpL old := by unfold cqB; rw [if_pos hF.flt]; rfl
  have hcon := implCompactPage_own ay old 64 cy w hl64 (by omega) hyl hyr hF.pg.bd
  rw [hcq, hcb, hCf.pg.len] at hcon
  have HCon : Hid (Calls Tryz.prog 156 #[.slice ay 64 cy] w fun e w' => ∃ a' d', e = .returned (.agg #[.int .i64 0, .int .i64 0, .slice a' 64 d']) ∧ Below w.heap.size w w' ∧ PoP w w' a' d' 0 (cpL old)) := hcon
  obtain ⟨o0, o1, _, _⟩ := hS.o
  have hpi : (pn : Int) < (cur.length : Int) := by omega
  have HS : Hid (HpX sb B n₀ X ob es cur x1 k1 V1 (some ⟨gp, 0, none⟩) k2 V2 w) := hS
  have HOk : Hid (okP cur) := hok
  clear hS hcon hok hp hyr
  go_enter Tryz.func105, Tryz.ntmps105
  go_wp2_with fail
  refine HCon.out.mono ?_
  rintro e w1 ⟨a', d', rfl, g1, hpo, -⟩
  obtain ⟨g, rfl, rfl, hg, hA⟩ := hpo rfl
  have hfr := HS.out.fresh hg (o := 0) (n := 64) (c := 64)
  have hput := putEdit_any sb B n₀ X ob es cur x1 k1 V1 (some ⟨gp, 0, none⟩) k2 V2 pn (some ⟨g, 0, none⟩) 64 (cpL old) w1 (HS.out.below g1) (by omega) HOk.out.bd hCf.pg.bd hCf.pg.len hc12 (by omega) (hA.gb (by have := HS.out.sz; omega)) hfr.1 hfr.2
  clear hA hfr HS HCon c8 o0 o1 g1
  go_wp2_with fail
  refine hput.mono ?_
  rintro e w2 ⟨rfl, hR⟩
  clear hput
  go_wp2_with fail
  go_end0
  exact ⟨rfl, hR⟩

set_option maxHeartbeats 1000000 in
theorem pageAt_new (pn n k : Nat) (x : Option Addr) (w : World) (hp : n ≤ pn) (h12 : pn < 12) :
    Calls Tryz.prog 103 #[.slice x n k, .int .i64 pn] w fun e w' => e = .returned (.tuple #[.slice (some ⟨w.heap.size + 1, 0, none⟩) 64 64, .bool true]) ∧ Below w.heap.size w w' ∧ Arr w' (w.heap.size + 1) (newBytes 0) := by
  have fp2 : ∀ (q s : Int) (p : Option Addr) (n c : Nat) (W : World), (Instr.field 146 (.agg #[.int .i64 q, .int .i64 s, .slice p n c]) 2).run Tryz.prog W = .ok (.slice p n c) W := fun _ _ _ _ _ _ => by kernel_rfl
  have hpi : ¬ (pn : Int) < (n : Int) := by omega
  have hpj : (pn : Int) < 12 := by omega
  go_enter Tryz.func103, Tryz.ntmps103
  go_wp2_with fail
  refine (implNewPage_any 0 _).mono ?_
  rintro e w1 ⟨rfl, g1, hA⟩
  go_wp2_with fail
  go_ret2
  exact ⟨rfl, g1, hA⟩
set_option maxHeartbeats 1000000 in
theorem pageAt_none (pn n k : Nat) (x : Option Addr) (w : World) (hp : n ≤ pn) (h12 : 12 ≤ pn) :
    Calls Tryz.prog 103 #[.slice x n k, .int .i64 pn] w fun e w' => e = .returned (.tuple #[.slice none 0 0, .bool false]) ∧ w' = w := by
  have hpi : ¬ (pn : Int) < (n : Int) := by omega
  have hpj : ¬ (pn : Int) < 12 := by omega
  go_enter Tryz.func103, Tryz.ntmps103
  go_wp2_with fail
  go_ret2
  exact ⟨rfl, rfl⟩

set_option maxHeartbeats 1000000 in
theorem placeCl_no (kb hb ab pb : Nat) (u : FrameMode) (w : World) (hk : w.cell? ⟨kb, 0, none⟩ = some (.bool false)) :
    CallsD Tryz.prog 102 #[.pointer (some ⟨kb, 0, none⟩), .pointer (some ⟨hb, 0, none⟩), .pointer (some ⟨ab, 0, none⟩), .pointer (some ⟨pb, 0, none⟩)] u w fun e u' w' => u' = u ∧ (e = .returned (.tuple #[]) ∧ w' = w) := by
  go_enter_d Tryz.func102, Tryz.ntmps102
  go_wp2_with fail
  go_end0
  exact ⟨rfl, rfl⟩
set_option maxHeartbeats 1000000 in
theorem placeCl_yes (kb hb ab pb ob pn c : Nat) (xa : Option Addr) (R : World → Prop) (u : FrameMode) (w : World) (hk : w.cell? ⟨kb, 0, none⟩ = some (.bool true)) (hh : w.cell? ⟨hb, 0, none⟩ = some (.pointer (some ⟨ob, 0, none⟩))) (ha : w.cell? ⟨ab, 0, none⟩ = some (.int .i64 pn)) (hp : w.cell? ⟨pb, 2, none⟩ = some (.slice xa 64 c)) (hput : Calls Tryz.prog 86 #[.pointer (some ⟨ob, 0, none⟩), .int .i64 pn, .slice xa 64 c] w fun e w' => e = .returned (.tuple #[]) ∧ R w') :
    CallsD Tryz.prog 102 #[.pointer (some ⟨kb, 0, none⟩), .pointer (some ⟨hb, 0, none⟩), .pointer (some ⟨ab, 0, none⟩), .pointer (some ⟨pb, 0, none⟩)] u w fun e u' w' => u' = u ∧ (e = .returned (.tuple #[]) ∧ R w') := by
  go_enter_d Tryz.func102, Tryz.ntmps102
  go_wp2_with fail
  refine hput.mono ?_
  rintro e w1 ⟨rfl, hR⟩
  go_wp2_with fail
  go_end0
  exact ⟨rfl, hR⟩


section
variable {sb : Nat → Prop} {B : Nat → Option Obj} {n₀ : Nat} {X : World} {ob : Nat} {es : List (Int × List Int)} {ps : List (List Int)} {x1 : Option Addr} {k1 : Nat} {V1 : List Value} {x2 : Option Addr} {k2 : Nat} {V2 : List Value} {V V' : World}
theorem HpX.less {P : Nat → Prop} {B' : Nat → Option Obj} (h : HpX P B' n₀ X ob es ps x1 k1 V1 x2 k2 V2 V) (hs : ∀ g, sb g → P g) (hb : ∀ g, sb g → B' g = B g) : HpX sb B n₀ X ob es ps x1 k1 V1 x2 k2 V2 V :=
  ⟨h.toHpS, fun g hg => h.m1 g (hs g hg), fun g hg => h.m2 g (hs g hg), fun g hg => h.m3 g (hs g hg), fun g hg => (h.b g (hs g hg)).trans (hb g hg), fun g hg => h.ls g (hs g hg)⟩
theorem HpX.more {P : Nat → Prop} (h : HpX sb B n₀ X ob es ps x1 k1 V1 x2 k2 V2 V) (hb : Below V.heap.size V V') (hP : ∀ g, P g → sb g ∨ (V.heap.size ≤ g ∧ g < V'.heap.size)) : HpX P (fun g => V'.heap[g]?) n₀ X ob es ps x1 k1 V1 x2 k2 V2 V' := by
  have h' := h.below hb
  refine ⟨h'.toHpS, fun g hg hh => ?_, fun g hg hh => ?_, fun g hg => ?_, fun _ _ => rfl, fun g hg => ?_⟩
  · rcases hP g hg with h1 | h1
    · exact h.m1 g h1 hh
    · have := (h.a.e.lt hh).2; omega
  · rcases hP g hg with h1 | h1
    · exact h.m2 g h1 hh
    · have := (h.a.p.lt hh).2; omega
  · rcases hP g hg with h1 | h1
    · exact h.m3 g h1
    · have := h.o.lt; omega
  · rcases hP g hg with h1 | h1
    · exact h'.ls g h1
    · exact h1.2
end
/-- The blocks of placeCell's own variables, and those of sb. -/
def pcP (sb : Nat → Prop) (hb ab kb pb : Nat) : Nat → Prop := fun g => sb g ∨ g = hb ∨ g = ab ∨ g = kb ∨ g = pb
/-- placeCell's own variables: the heap's pointer, where the cell came to stand, whether it did, what PutSlot told. -/
structure PcL (V : World) (hb ab kb pb ob : Nat) : Prop where
  h0 : V.cell? ⟨hb, 0, none⟩ = some (.pointer (some ⟨ob, 0, none⟩))
  a0 : V.cell? ⟨ab, 0, none⟩ = some (.int .i64 0)
  a1 : V.cell? ⟨ab, 1, none⟩ = some (.int .i64 0)
  k0 : V.cell? ⟨kb, 0, none⟩ = some (.bool false)
  p0 : ∃ v, V.cell? ⟨pb, 0, none⟩ = some v
  p1 : ∃ v, V.cell? ⟨pb, 1, none⟩ = some v
  p2 : ∃ v, V.cell? ⟨pb, 2, none⟩ = some v
  fa0 : V.frozen? ⟨ab, 0, none⟩ = false
  fa1 : V.frozen? ⟨ab, 1, none⟩ = false
  fk : V.frozen? ⟨kb, 0, none⟩ = false
  fp0 : V.frozen? ⟨pb, 0, none⟩ = false
  fp1 : V.frozen? ⟨pb, 1, none⟩ = false
  fp2 : V.frozen? ⟨pb, 2, none⟩ = false
theorem PcL.keep {V V' : World} {hb ab kb pb ob : Nat} (h : PcL V hb ab kb pb ob) (hk : ∀ g, g = hb ∨ g = ab ∨ g = kb ∨ g = pb → V'.heap[g]? = V.heap[g]?) : PcL V' hb ab kb pb ob := by
  have eh := hk hb (.inl rfl)
  have ea := hk ab (.inr (.inl rfl))
  have ek := hk kb (.inr (.inr (.inl rfl)))
  have ep := hk pb (.inr (.inr (.inr rfl)))
  obtain ⟨v0, e0⟩ := h.p0
  obtain ⟨v1, e1⟩ := h.p1
  obtain ⟨v2, e2⟩ := h.p2
  exact ⟨(World.cell?_of_block (a := ⟨hb, 0, none⟩) eh).trans h.h0, (World.cell?_of_block (a := ⟨ab, 0, none⟩) ea).trans h.a0, (World.cell?_of_block (a := ⟨ab, 1, none⟩) ea).trans h.a1, (World.cell?_of_block (a := ⟨kb, 0, none⟩) ek).trans h.k0, ⟨v0, (World.cell?_of_block (a := ⟨pb, 0, none⟩) ep).trans e0⟩, ⟨v1, (World.cell?_of_block (a := ⟨pb, 1, none⟩) ep).trans e1⟩, ⟨v2, (World.cell?_of_block (a := ⟨pb, 2, none⟩) ep).trans e2⟩, (World.frozen?_of_block (a := ⟨ab, 0, none⟩) ea).trans h.fa0, (World.frozen?_of_block (a := ⟨ab, 1, none⟩) ea).trans h.fa1, (World.frozen?_of_block (a := ⟨kb, 0, none⟩) ek).trans h.fk, (World.frozen?_of_block (a := ⟨pb, 0, none⟩) ep).trans h.fp0, (World.frozen?_of_block (a := ⟨pb, 1, none⟩) ep).trans h.fp1, (World.frozen?_of_block (a := ⟨pb, 2, none⟩) ep).trans h.fp2⟩
theorem put_cell {V : World} {b o q : Nat} {u : Value} (h : ∃ v, V.cell? ⟨b, q, none⟩ = some v) : ∃ v, (V.setCell ⟨b, o, none⟩ u).cell? ⟨b, q, none⟩ = some v := by
  obtain ⟨v, e⟩ := h
  by_cases e2 : q = o
  · subst e2; exact ⟨u, World.cell?_setCell_same _ _ _ e⟩
  · exact ⟨v, by rw [World.cell?_setCell_other _ _ _ _ (fun h => e2 (by simp at h; try omega))]; exact e⟩
theorem PcL.put {V : World} {hb ab kb pb ob : Nat} (h : PcL V hb ab kb pb ob) (n1 : hb ≠ pb) (n2 : ab ≠ pb) (n3 : kb ≠ pb) (o : Nat) (u : Value) : PcL (V.setCell ⟨pb, o, none⟩ u) hb ab kb pb ob := by
  have ot : ∀ (b q : Nat) (v : Value), b ≠ pb → V.cell? ⟨b, q, none⟩ = some v → (V.setCell ⟨pb, o, none⟩ u).cell? ⟨b, q, none⟩ = some v := fun b q v hn e => by
    rw [World.cell?_setCell_other _ _ _ _ (fun h => hn (by simp at h; try omega))]; exact e
  have fz : ∀ (b q : Nat), V.frozen? ⟨b, q, none⟩ = false → (V.setCell ⟨pb, o, none⟩ u).frozen? ⟨b, q, none⟩ = false := fun b q e => by rw [World.frozen?_setCell]; exact e
  exact ⟨ot _ _ _ n1 h.h0, ot _ _ _ n2 h.a0, ot _ _ _ n2 h.a1, ot _ _ _ n3 h.k0, put_cell h.p0, put_cell h.p1, put_cell h.p2, fz _ _ h.fa0, fz _ _ h.fa1, fz _ _ h.fk, fz _ _ h.fp0, fz _ _ h.fp1, fz _ _ h.fp2⟩

/-- All of it. -/
structure PcI (sb : Nat → Prop) (B : Nat → Option Obj) (n₀ : Nat) (X : World) (ob hb ab kb pb : Nat) (s : St) (V : World) : Prop where
  s : R3X (pcP sb hb ab kb pb) (fun g => V.heap[g]?) n₀ X ob s.1 s.2 V
  b : ∀ g, sb g → V.heap[g]? = B g
  l : PcL V hb ab kb pb ob
section
variable {sb : Nat → Prop} {B : Nat → Option Obj} {n₀ : Nat} {X : World} {ob : Nat} {hb ab kb pb : Nat} {s : St} {V V' : World}
theorem PcI.turn (h : PcI sb B n₀ X ob hb ab kb pb s V) {es : List (Int × List Int)} {cur : List (List Int)} (h' : R3X (pcP sb hb ab kb pb) (fun g => V.heap[g]?) n₀ X ob es cur V') : PcI sb B n₀ X ob hb ab kb pb (es, cur) V' := by
  obtain ⟨x1, k1, V1, x2, k2, V2, hx⟩ := h'
  exact ⟨⟨_, _, _, _, _, _, hx.now⟩, fun g hg => (hx.b g (.inl hg)).trans (h.b g hg), h.l.keep (fun g hg => hx.b g (.inr hg))⟩
theorem PcI.below (h : PcI sb B n₀ X ob hb ab kb pb s V) (hb' : Below V.heap.size V V') : PcI sb B n₀ X ob hb ab kb pb s V' := by
  obtain ⟨x1, k1, V1, x2, k2, V2, hx⟩ := h.s
  exact h.turn ⟨_, _, _, _, _, _, hx.below hb'⟩
theorem PcI.rd (h : PcI sb B n₀ X ob hb ab kb pb s V) {cb so n : Nat} {cs : List Int} (hC : Cx sb cb so B cs n) : Reads V (some ⟨cb, so, none⟩) cs := by
  obtain ⟨W, hW, hr⟩ := hC.rd
  rcases hr with h0 | ⟨b, o, e, hc⟩
  · exact .inl h0
  · cases e
    exact .inr ⟨_, _, rfl, fun k hk => (World.cell?_of_block (a := ⟨cb, so + k, none⟩) ((h.b cb hC.i).trans hW.symm)).trans (hc k hk)⟩
theorem PcI.put (h : PcI sb B n₀ X ob hb ab kb pb s V) (hn : n₀ ≤ pb) (hs : ∀ g, sb g → g < hb) (n1 : hb < ab) (n2 : ab < kb) (n3 : kb < pb) (o : Nat) (u : Value) : PcI sb B n₀ X ob hb ab kb pb s (V.setCell ⟨pb, o, none⟩ u) := by
  obtain ⟨x1, k1, V1, x2, k2, V2, hx⟩ := h.s
  refine ⟨⟨_, _, _, _, _, _, hx.put (.inr (.inr (.inr (.inr rfl)))) hn u⟩, fun g hg => ?_, h.l.put (by omega) (by omega) (by omega) o u⟩
  rw [Below.heap_setCell _ _ _ _ (fun e => by have := hs g hg; simp at e; omega)]
  exact h.b g hg
end

/-- The program's PutSlot at a right page. -/
def PsF (zs cs : List Int) (n : Nat) (w : World) (e : Ending) (w' : World) : Prop := Below w.heap.size w w' ∧ (putQ zs n = 0 → ∃ g, e = .returned (.agg #[.int .i64 0, .int .i64 (putS zs), .slice (some ⟨g, 0, none⟩) 64 64]) ∧ w.heap.size ≤ g ∧ Arr w' g (putP zs cs)) ∧ (putQ zs n ≠ 0 → e = .returned (.agg #[.int .i64 (putQ zs n), .int .i64 0, .slice none 0 0]))
theorem putSlot_f (a : Option Addr) (zs cs : List Int) (c n d : Nat) (cb : Option Addr) (w : World) (hF : Fine zs) (hc : 64 ≤ c) (hr : Reads w a zs) (hn : cs.length = n) (h1 : 1 ≤ n) (h20 : n ≤ 20) (hb : ∀ z ∈ cs, 0 ≤ z ∧ z ≤ 255) (hrc : Reads w cb cs) :
    Calls Tryz.prog 104 #[.slice a 64 c, .slice cb n d] w fun e w' => PsF zs cs n w e w' := by
  have hq : psQ zs n = putQ zs n := by unfold psQ; rw [if_pos hF.flt, if_pos (by simp [inR]; omega)]
  refine (implPutSlot_own a zs 64 c cb cs n d w hF.pg.len (by omega) hc hr hF.pg.bd hn (by omega) hrc hb).mono ?_
  rintro e w' ⟨a', d', rfl, g, hp⟩
  rw [hq] at hp ⊢
  refine ⟨g, fun h0 => ?_, fun h0 => ?_⟩
  · obtain ⟨q, rfl, rfl, hge, hA⟩ := hp.1 h0
    have hS : psS zs n = (putS zs : Int) := by unfold psS; rw [hq, if_pos h0]
    have hB : psB zs cs = putP zs cs := by unfold psB; rw [hn, hq, if_pos h0]
    rw [hB] at hA
    exact ⟨q, by rw [h0, hS, hB, hA.len], hge, hA⟩
  · obtain ⟨rfl, rfl, hB⟩ := hp.2 h0
    have hS : psS zs n = 0 := by unfold psS; rw [hq, if_neg h0]
    rw [hS, hB]
    rfl


set_option maxHeartbeats 1000000 in
theorem turnCl_no (tb hb ab : Nat) (q : Int) (u : FrameMode) (w : World) (hk : w.cell? ⟨tb, 0, none⟩ = some (.int .i64 q)) (hq : q ≠ 0) :
    CallsD Tryz.prog 174 #[.pointer (some ⟨tb, 0, none⟩), .pointer (some ⟨hb, 0, none⟩), .pointer (some ⟨ab, 0, none⟩)] u w fun e u' w' => u' = u ∧ (e = .returned (.tuple #[]) ∧ w' = w) := by
  have dq : (q == 0) = false := by simpa using hq
  go_enter_d Tryz.func174, Tryz.ntmps174
  go_wp2_with fail
  go_end0
  exact ⟨rfl, rfl⟩
set_option maxHeartbeats 1000000 in
theorem turnCl_yes (tb hb ab ob pn c : Nat) (xa : Option Addr) (R : World → Prop) (u : FrameMode) (w : World) (hk : w.cell? ⟨tb, 0, none⟩ = some (.int .i64 0)) (hp : w.cell? ⟨tb, 2, none⟩ = some (.slice xa 64 c)) (hh : w.cell? ⟨hb, 0, none⟩ = some (.pointer (some ⟨ob, 0, none⟩))) (ha : w.cell? ⟨ab, 0, none⟩ = some (.int .i64 pn)) (hput : Calls Tryz.prog 86 #[.pointer (some ⟨ob, 0, none⟩), .int .i64 pn, .slice xa 64 c] w fun e w' => e = .returned (.tuple #[]) ∧ R w') :
    CallsD Tryz.prog 174 #[.pointer (some ⟨tb, 0, none⟩), .pointer (some ⟨hb, 0, none⟩), .pointer (some ⟨ab, 0, none⟩)] u w fun e u' w' => u' = u ∧ (e = .returned (.tuple #[]) ∧ R w') := by
  go_enter_d Tryz.func174, Tryz.ntmps174
  go_wp2_with fail
  refine hput.mono ?_
  rintro e w1 ⟨rfl, hR⟩
  go_wp2_with fail
  go_end0
  exact ⟨rfl, hR⟩

/-- What a drawn region of turnCell reads. -/
structure TcC (hb ab ob gp pn sl m k2 cy : Nat) (ay : Option Addr) (V : World) : Prop where
  h0 : V.cell? ⟨hb, 0, none⟩ = some (.pointer (some ⟨ob, 0, none⟩))
  o0 : V.cell? ⟨ob, 0, none⟩ = some (.slice (some ⟨gp, 0, none⟩) m k2)
  a0 : V.cell? ⟨ab, 0, none⟩ = some (.int .i64 pn)
  a1 : V.cell? ⟨ab, 1, none⟩ = some (.int .i64 sl)
  c8 : V.cell? ⟨gp, pn, none⟩ = some (.slice ay 64 cy)
section
variable {hb ab ob gp pn sl m k2 cy : Nat} {ay : Option Addr} {V V' : World}
theorem TcC.up (h : TcC hb ab ob gp pn sl m k2 cy ay V) (g : Below V.heap.size V V') : TcC hb ab ob gp pn sl m k2 cy ay V' :=
  ⟨(g.cell (p := ⟨hb, 0, none⟩) (World.block_lt_of_cell? V _ h.h0)).trans h.h0, (g.cell (p := ⟨ob, 0, none⟩) (World.block_lt_of_cell? V _ h.o0)).trans h.o0, (g.cell (p := ⟨ab, 0, none⟩) (World.block_lt_of_cell? V _ h.a0)).trans h.a0, (g.cell (p := ⟨ab, 1, none⟩) (World.block_lt_of_cell? V _ h.a1)).trans h.a1, (g.cell (p := ⟨gp, pn, none⟩) (World.block_lt_of_cell? V _ h.c8)).trans h.c8⟩
theorem TcC.put (h : TcC hb ab ob gp pn sl m k2 cy ay V) {tb : Nat} (n1 : hb ≠ tb) (n2 : ob ≠ tb) (n3 : ab ≠ tb) (n4 : gp ≠ tb) (o : Nat) (u : Value) : TcC hb ab ob gp pn sl m k2 cy ay (V.setCell ⟨tb, o, none⟩ u) := by
  have ot : ∀ (b q : Nat) (v : Value), b ≠ tb → V.cell? ⟨b, q, none⟩ = some v → (V.setCell ⟨tb, o, none⟩ u).cell? ⟨b, q, none⟩ = some v := fun b q v hn e => by
    rw [World.cell?_setCell_other _ _ _ _ (fun h => hn (by simp at h; try omega))]; exact e
  exact ⟨ot _ _ _ n1 h.h0, ot _ _ _ n2 h.o0, ot _ _ _ n3 h.a0, ot _ _ _ n3 h.a1, ot _ _ _ n4 h.c8⟩
theorem TcC.lts (h : TcC hb ab ob gp pn sl m k2 cy ay V) : hb < V.heap.size ∧ ob < V.heap.size ∧ ab < V.heap.size ∧ gp < V.heap.size := ⟨World.block_lt_of_cell? V _ h.h0, World.block_lt_of_cell? V _ h.o0, World.block_lt_of_cell? V _ h.a0, World.block_lt_of_cell? V _ h.c8⟩
end
/-- A walk that meets no panic. -/
def qNorm (Q : Exit → Act → World → Prop) : Exit → Act → World → Prop := fun e a w => match e with | .normal => Q .normal a w | _ => False
theorem wp_norm {P : Program} {c : Code} {Q : Exit → Act → World → Prop} {a : Act} {w : World} (h : c.wp P (qNorm Q) a w) : c.wp P Q a w := wp_mono h (fun e a w hq => by
  cases e with
  | normal => exact hq
  | _ => exact hq.elim)
/-- SetSlot, told for a walk. -/
theorem setSlot_w (a : Option Addr) (zs cs : List Int) (c s cb so n d : Nat) (w : World) (hF : Fine zs) (hc : 64 ≤ c) (hr : Reads w a zs) (hh : HasS zs s) (hn : cs.length = n) (h1 : 1 ≤ n) (h20 : n ≤ 20) (hb : ∀ z ∈ cs, 0 ≤ z ∧ z ≤ 255) (hrc : Reads w (some ⟨cb, so, none⟩) cs) {q : Int} (hq : setQ zs s n = q) :
    Calls Tryz.prog 173 #[.slice a 64 c, .int .i64 s, .slice (some ⟨cb, so, none⟩) n d] w fun e w' => ∃ xa na ca, e = .returned (.agg #[.int .i64 q, .int .i64 0, .slice xa na ca]) ∧ Below w.heap.size w w' ∧ (q = 0 → ∃ g, (xa = some ⟨g, 0, none⟩ ∧ na = 64 ∧ ca = 64) ∧ w.heap.size ≤ g ∧ Arr w' g (setP zs s cs)) := by
  refine (setSlot_f a zs cs c s cb so n d w hF hc hr ((hasC_iff s).2 ⟨hh.lt, hh.em⟩) hn h1 h20 hb hrc).mono ?_
  rintro e w' ⟨gB, h0, hn0⟩
  rw [hq] at h0 hn0
  by_cases hq0 : q = 0
  · obtain ⟨g, rfl, hg, hA⟩ := h0 hq0
    exact ⟨_, _, _, by rw [hq0], gB, fun _ => ⟨g, ⟨rfl, rfl, rfl⟩, hg, hA⟩⟩
  · exact ⟨_, _, _, hn0 hq0, gB, fun h => absurd h hq0⟩

end Go.Proofs.YtnfolgoloaeanaaGreat

