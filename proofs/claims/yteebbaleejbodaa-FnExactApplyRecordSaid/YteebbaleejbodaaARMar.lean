/-
  The model's ApplyRecord.
-/
import Derived.Test.YteebbaleejbodaaARIar
import Derived.Test.YteebbaleejbodaaARLap
import Derived.Test.YteebbaleejbodaaARMae
import Derived.Deep.Cut
import Derived.Deep.RegionHeld

namespace Go.Proofs.Yteebbaleejbodaa
open Go.RowKit
set_option linter.unusedVariables false
set_option maxRecDepth 20000

theorem AeS.setPage {n₀ : Nat} {X : World} {ob : Nat} {es : List (Int × List Int)} {ps : List (List Int)} {x1 : Option Addr} {k1 : Nat} {V1 : List Value} {gp k2 : Nat} {V2 : List Value} {V : World} (h : AeS n₀ X ob es ps x1 k1 V1 (some ⟨gp, 0, none⟩) k2 V2 V) {u : Value} {zs : List Int} {i : Nat} (hi : i < ps.length) (hu : Gb n₀ V u zs) (hfr : ∀ g, u.ownBlock = some g → ¬ blkP (.slice x1 es.length k1) V1 g ∧ ¬ blkP (.slice (some ⟨gp, 0, none⟩) ps.length k2) V2 g ∧ g ≠ ob) : AeS n₀ X ob es (ps.set i zs) x1 k1 V1 (some ⟨gp, 0, none⟩) k2 (V2.set i u) (V.setCell ⟨gp, i, none⟩ u) := by
  have hl : (ps.set i zs).length = ps.length := List.length_set
  have hgb : blkP (.slice (some ⟨gp, 0, none⟩) ps.length k2) V2 gp := .inl rfl
  have hgo : gp ≠ ob := fun e => h.n2 (e ▸ hgb)
  have g2 := grownOut V gp i u
  have hb : ∀ g, blkP (.slice (some ⟨gp, 0, none⟩) ps.length k2) (V2.set i u) g → blkP (.slice (some ⟨gp, 0, none⟩) ps.length k2) V2 g ∨ u.ownBlock = some g := fun g hh => by
    rcases hh with h1 | ⟨y, hy, h1⟩
    · exact .inl (.inl h1)
    · rcases List.mem_or_eq_of_mem_set hy with h2 | rfl
      · exact .inl (.inr ⟨y, h2, h1⟩)
      · exact .inr h1
  refine ⟨⟨h.a.e.kept g2 (fun g hh e => by cases e; exact h.a.d _ hh hgb), ?_, h.a.s1, sep_set h.a.s2 (fun x hx g e1 e2 => (hfr g e1).2.1 (.inr ⟨x, hx, e2⟩)), fun g h1 h2 => ?_⟩, ?_, h.n1, fun hh => ?_, h.g.grown g2 h.sz (fun q e => by cases e; exact (h.a.p.lt hgb).1), h.l⟩
  · rw [hl]; exact h.a.p.set hu rfl hi
  · rw [hl] at h2
    rcases hb g h2 with h3 | h3
    · exact h.a.d g h1 h3
    · exact (hfr g h3).1 h1
  · rw [hl]; exact h.o.grown g2 (fun e => hgo (by cases e; rfl))
  · rw [hl] at hh
    rcases hb ob hh with h3 | h3
    · exact h.n2 h3
    · exact (hfr ob h3).2.2 rfl

theorem RcAt.at {W W' : World} {b B : Nat} {k tx pg : Int} {a : Option Addr} {n c : Nat} (h : RcAt W b k tx pg a n c) (hb : Below B W W') (hl : b < B) : RcAt W' b k tx pg a n c :=
  ⟨(hb.cell hl).trans h.c0, (hb.cell (p := ⟨b, 1, none⟩) hl).trans h.c1, (hb.cell (p := ⟨b, 2, none⟩) hl).trans h.c2, (hb.cell (p := ⟨b, 3, none⟩) hl).trans h.c3⟩
theorem l2NewU_any (w : World) : Calls Try.prog 78 #[.int .u8 0] w fun e w' => ∃ g d, e = .returned (.slice (some ⟨g, 0, none⟩) 64 d) ∧ Below w.heap.size w w' ∧ w.heap.size ≤ g ∧ S64 d w' g (newBytes 0) :=
  (l2NewG_any 0 w).mono (fun e w' h => ⟨_, _, h.1, h.2.1, Nat.le_refl _, h.2.2⟩)
theorem l7Bad_any (q : Int) (w : World) : Calls Try.prog 75 #[.int .i64 q] w fun e w' => e = .returned (.agg #[.int .i64 q, .slice none 0 0, .slice none 0 0]) ∧ Below w.heap.size w w' := by
  go_enter Try.func75, Try.ntmps75
  go_wp2
  refine bodyPost_ret (v := .agg #[.int .i64 q, .slice none 0 0, .slice none 0 0]) (by simp [results, Try.results75, go_sem]) rfl ?_
  exact ⟨rfl, by go_grown⟩
theorem ae_end {n₀ ob ro : Nat} {w X V V' : World} {es : List (Int × List Int)} {qs : List (List Int)} {x1 x2 : Option Addr} {k1 k2 : Nat} {V1 V2 : List Value} (h : AeS n₀ X ob es qs x1 k1 V1 x2 k2 V2 V) (g : Below w.heap.size w X) (hwn : w.heap.size ≤ n₀) (ht : Turned ro (ro + 1) V V') (hr : ro < n₀) (hw : w.heap.size ≤ ro) : AePost 0 es qs w (.returned (.agg #[.int .i64 0, .slice x1 es.length k1, .slice x2 qs.length k2])) V' := by
  have hg : V.grownBy V' (some ro) := ⟨ht.os, ht.tape, ht.output, ht.size, fun k hk hne => ht.block k hk (fun e => hne (by rw [show k = ro by omega]))⟩
  have gV : Below w.heap.size w V := g.trans (h.g.mono hwn)
  exact ⟨_, V1, _, V2, rfl, gV.trans (ht.toBelow gV.size hw), (h.a.kept hg (fun k hk e => by injection e with e; have := (h.a.e.lt hk).1; omega) (fun k hk e => by injection e with e; have := (h.a.p.lt hk).1; omega)).base hwn⟩

set_option maxHeartbeats 8000000 in
theorem specApplyRecord_any (pa : Option Addr) (ps : List (List Int)) (np pc : Nat) (kd tx pg : Int) (a : Option Addr) (m c : Nat) (P : Nat → Int) (A : Nat → Option Addr) (C : Nat → Nat) (Z : Nat → List Int) (w : World) (hnp : ps.length = np) (hmp : np ≤ 1048576) (hpo : PgOk ps) (hrn : PgRdN w pa ps) (hm : m ≤ 1048576) (hz : ∀ i, i < m → (Z i).length ≤ 1048576) (hr : RunsRead w a m P A C Z) :
    Calls Try.prog 32 #[.slice pa np pc, .agg #[.int .i64 kd, .int .i64 tx, .int .i64 pg, .slice a m c]] w fun e w' => AePost (arC ps kd tx pg m P Z) [] (arP ps kd tx pg m P Z) w e w' := by
  have HNp : Hid (ps.length = np) := hnp
  have HPo : Hid (PgOk ps) := hpo
  have HRn : Hid (∀ W, Below w.heap.size w W → PgRdN W pa ps) := fun W hW => hrn.below hW (Nat.le_refl _)
  have HR : Hid (∀ W, Below w.heap.size w W → RunsRead W a m P A C Z) := fun W hW => hr.below hW (Nat.le_refl _)
  have HZ : Hid (∀ i, i < m → (Z i).length ≤ 1048576) := hz
  obtain ⟨Q, hQ⟩ : ∃ Q, arC ps kd tx pg m P Z = Q := ⟨_, rfl⟩
  obtain ⟨L, hL⟩ : ∃ L, arP ps kd tx pg m P Z = L := ⟨_, rfl⟩
  have HL : Hid ((if Q = 0 then (if inR kd 2 4 = true then wpL ps pg.toNat (apP (pgOf ps pg.toNat) P Z m) else ps) else []) = L) := by show _ = _; rw [← hL, ← hQ]; rfl
  have HQ : Hid ((if 12 < ps.length then 2 else if lenB ps = true then (if recQ kd tx pg m P Z = 0 then (if inR kd 2 4 = true then (if (ps.length : Int) < pg then 1 else 0) else 0) else recQ kd tx pg m P Z) else 1) = Q) := hQ
  rw [hQ, hL]
  obtain ⟨rq, hrq⟩ : ∃ rq, recQ kd tx pg m P Z = rq := ⟨_, rfl⟩
  have HRq : Hid (recQ kd tx pg m P Z = rq) := hrq
  rw [hrq] at HQ
  clear hnp hpo hrn hr hz hQ hL hrq
  go_enter Try.func32, Try.ntmps32
  go_upto_region 1 with (fail)
  generalize hX : World.alloc _ _ = X
  have gX : Below w.heap.size w X := by rw [← hX]; go_grown
  have hRc : RcAt X w.heap.size kd tx pg a m c := by rw [← hX]; exact ⟨by simp [go_sem], by simp [go_sem], by simp [go_sem], by simp [go_sem]⟩
  have hO : Rc3 X (w.heap.size + 1) := by rw [← hX]; exact ⟨by simp [go_sem], by simp [go_sem], by simp [go_sem], by simp [go_sem], by simp [go_sem], by simp [go_sem]⟩
  clear hX
  obtain ⟨rb, hrb⟩ : ∃ rb, w.heap.size = rb := ⟨_, rfl⟩
  have hrb1 : w.heap.size ≤ rb + 1 := by omega
  rw [hrb] at hRc hO
  simp only [hrb]
  clear hrb
  by_cases h12 : (12 : Int) < (np : Int)
  · have HX : Hid (Q = 2 ∧ L = []) := by
      have h1 : Q = 2 := by rw [← HQ.out, if_pos (by rw [HNp.out]; omega)]
      exact ⟨h1, by rw [← HL.out, h1]; rfl⟩
    have d12 : decide ((12 : Int) < np) = true := by simpa using h12
    clear HQ HL hRc
    go_wp2_with (go_at_call 75; refine (l7Bad_any 2 _).mono ?_)
    rintro e WB ⟨rfl, gb⟩
    obtain ⟨o0, o1, o2, of0, of1, of2⟩ := (hO).at gb (hO).lt
    have gq := (gX).trans (gb.mono (gX).size)
    clear gb
    go_wp2_with fail
    refine bodyPost_ret (v := .agg #[.int .i64 2, .slice none 0 0, .slice none 0 0]) (by simp [results, Try.results32, go_sem, *]) rfl ?_
    rw [HX.out.1, HX.out.2]
    exact ar_bad (below_set3 gq hrb1 _ _ _)
  have d12 : decide ((12 : Int) < np) = false := by simpa using h12
  have hn12 : np ≤ 12 := by omega
  have HQ : Hid ((if lenB ps = true then (if rq = 0 then (if inR kd 2 4 = true then (if (np : Int) < pg then 1 else 0) else 0) else rq) else 1) = Q) := by
    have h := HQ.out
    rw [if_neg (by rw [HNp.out]; omega), HNp.out] at h
    exact h
  clear h12
  go_upto_region 4 with (fail)
  go_loopw [5] (fun i wr => ∃ j : Nat, j ≤ np ∧ i = .int .i64 j ∧ Hid (∀ zs ∈ ps.take j, zs.length = 64) ∧ Below w.heap.size w wr ∧ RcAt wr rb kd tx pg a m c ∧ Rc3 wr (rb + 1)) (fun i _ => np - (intOf i).toNat)
  case atStart => exact ⟨0, Nat.zero_le _, rfl, by intro y hy; simp at hy, gX, hRc, hO⟩
  case round =>
    clear gX hRc hO
    obtain ⟨j, hj, rfl, hA, g, hRc, hO⟩ := hrel
    by_cases hlt : j < np
    · obtain ⟨zs, hzs⟩ : ∃ zs, ps[j]? = some zs := ⟨_, List.getElem?_eq_getElem (by rw [HNp.out]; exact hlt)⟩
      obtain ⟨b, off, x, cx, rfl, x0, _, _⟩ := (HRn.out _ g).page hzs
      have hjn : (j : Int) < (np : Int) := by omega
      have HZs : Hid (ps[j]? = some zs) := hzs
      clear hzs
      obtain ⟨zl, hzl⟩ : ∃ zl, zs.length = zl := ⟨_, rfl⟩
      have HZl : Hid (zs.length = zl) := hzl
      rw [hzl] at x0
      clear hzl
      by_cases h64 : zl = 64
      · have d : ((zl : Int) != 64) = false := by simp; omega
        have HA2 : Hid (∀ ys ∈ ps.take (j + 1), ys.length = 64) := by
          intro ys hys
          rw [take_snoc HZs.out] at hys
          rcases List.mem_append.1 hys with hys | hys
          · exact hA.out ys hys
          · simp only [List.mem_singleton] at hys; rw [hys, HZl.out]; exact h64
        clear h64
        go_wp2_with fail
        go_roundw
        case rel => exact ⟨j + 1, by omega, by go_num, HA2, g, hRc, hO⟩
        case measure => simp [intOf]; omega
      · have d : ((zl : Int) != 64) = true := by simp; omega
        have HX : Hid (Q = 1 ∧ L = []) := by
          have hb : lenB ps = false := by
            unfold lenB
            rw [List.all_eq_false]
            exact ⟨zs, List.mem_of_getElem? HZs.out, by rw [HZl.out]; simpa using h64⟩
          have h1 : Q = 1 := by rw [← HQ.out, hb]; rfl
          exact ⟨h1, by rw [← HL.out, h1]; rfl⟩
        clear HQ HL hRc h64 hA
        go_wp2_with (go_at_call 75; refine (l7Bad_any 1 _).mono ?_)
        rintro e WB ⟨rfl, gb⟩
        obtain ⟨o0, o1, o2, of0, of1, of2⟩ := (hO).at gb (hO).lt
        have gq := (g).trans (gb.mono (g).size)
        clear gb
        go_wp2_with fail
        refine bodyPost_ret (v := .agg #[.int .i64 1, .slice none 0 0, .slice none 0 0]) (by simp [results, Try.results32, go_sem, *]) rfl ?_
        rw [HX.out.1, HX.out.2]
        exact ar_bad (below_set3 gq hrb1 _ _ _)
    · have hall : ∀ zs ∈ ps, zs.length = 64 := by
        have h2 := hA.out
        rw [List.take_of_length_le (by rw [HNp.out]; omega)] at h2
        exact h2
      have HAll : Hid (∀ zs ∈ ps, zs.length = 64) := hall
      have hb : lenB ps = true := by
        unfold lenB
        rw [List.all_eq_true]
        intro zs h
        simpa using hall zs h
      have HQ : Hid ((if rq = 0 then (if inR kd 2 4 = true then (if (np : Int) < pg then 1 else 0) else 0) else rq) = Q) := by show _ = _; rw [← HQ.out, if_pos hb]
      have hjn : ¬ (j : Int) < (np : Int) := by omega
      clear hall hb hA
      have hlf := l4Fault_any rb kd tx pg a m c P A C Z wr hm HZ (HR.out wr g) hRc
      rw [HRq.out] at hlf
      go_wp2_with fail
      refine hlf.mono ?_
      rintro e W1 ⟨rfl, hW1⟩
      have g1 : Below wr.heap.size wr W1 := by obtain ⟨nq, hn⟩ := hW1; rw [hn]; exact ⟨rfl, rfl, rfl, Nat.le_refl _, fun _ _ => rfl⟩
      clear hW1
      have hRc := hRc.up g1
      have hO := hO.at g1 hO.lt
      have g := g.trans (g1.mono g.size)
      clear hlf g1
      by_cases hq0 : rq = 0
      · have d0 : (rq != 0) = false := by simpa using hq0
        have HQ : Hid ((if inR kd 2 4 = true then (if (np : Int) < pg then 1 else 0) else 0) = Q) := by show _ = _; rw [← HQ.out, if_pos hq0]
        have hop := l7Copy_any pa ps np pc W1 HNp.out (by omega) HPo.out (HRn.out W1 g)
        go_wp2_with (go_at_call 67; refine hop.mono ?_)
        rintro e W2 ⟨v, V2, rfl, g2, hP, hSp⟩
        obtain ⟨x2, k2, rfl⟩ : ∃ va vc, v = .slice va ps.length vc := by
          obtain ⟨va, vc, e, _⟩ := hP.own hSp
          exact ⟨va, vc, e⟩
        have hrn : rb < W1.heap.size := World.block_lt_of_cell? W1 _ hRc.c0
        have hron : rb + 1 < W1.heap.size := hO.lt
        have hwn : w.heap.size ≤ W1.heap.size := g.size
        have hRX : Hid (RcAt W1 rb kd tx pg a m c) := hRc
        have hOX : Hid (Rc3 W1 (rb + 1)) := hO
        have gX := g
        have hb2 := g2.size
        clear hop hRc hO g
        go_upto_region 12 with (fail)
        generalize hZ : World.alloc _ _ = wq
        have gZ : Below W2.heap.size W2 wq := by rw [← hZ]; go_grown
        have hOut : OutC wq W2.heap.size (.slice none 0 0) (.slice x2 ps.length k2) := by rw [← hZ]; exact ⟨by simp [go_sem], by simp [go_sem], by simp [go_sem], by simp [go_sem], by simp [go_sem]⟩
        clear hZ
        have hS : AeS W1.heap.size W1 W2.heap.size [] ps none 0 [] x2 k2 V2 wq := ⟨⟨EdB.nil _ _, hP.below gZ, fun i j u u' g _ h => by simp at h, hSp, fun g h => by rcases h with h | ⟨u, hu, _⟩; cases h; simp at hu⟩, hOut, fun h => by rcases h with h | ⟨u, hu, _⟩; cases h; simp at hu, fun hh => by have := (hP.lt hh).2; omega, g2.trans (gZ.mono hb2), hb2⟩
        clear hOut gZ hP hSp g2
        obtain ⟨es, x1, k1, V1, HEs, hS⟩ : ∃ es x1 k1 V1, Hid (es = []) ∧ AeS W1.heap.size W1 W2.heap.size es ps x1 k1 V1 x2 k2 V2 wq := ⟨[], none, 0, [], rfl, hS⟩
        generalize W2.heap.size = ob at hS ⊢
        clear hb2
        generalize W1.heap.size = n₀ at hS hrn hron hwn
        obtain ⟨r0, r1, r2, r3⟩ := hRX.out.at hS.g hrn
        by_cases hk : inR kd 2 4 = true
        · obtain ⟨hk3, hpg, hrf0⟩ := rec_runs (HRq.out.trans hq0) hk
          have HQ : Hid ((if (np : Int) < pg then 1 else 0) = Q) := by show _ = _; rw [← HQ.out, if_pos hk]
          obtain ⟨pn, hpn0⟩ : ∃ pn : Nat, pg = (pn : Int) := ⟨pg.toNat, by omega⟩
          subst hpn0
          have HL : Hid ((if Q = 0 then wpL ps pn (apP (pgOf ps pn) P Z m) else []) = L) := by show _ = _; rw [← HL.out, if_pos hk, Int.toNat_natCast]
          have HF0 : Hid (rfQ m P Z = 0) := hrf0
          have hp11 : pn ≤ 11 := by omega
          have hnot : (!inR kd 2 4) = false := by rw [hk]; rfl
          clear hk3 hpg hrf0
          by_cases hgt : np < pn
          · have HX : Hid (Q = 1 ∧ L = []) := by
              have h1 : Q = 1 := by rw [← HQ.out, if_pos (by omega)]
              exact ⟨h1, by rw [← HL.out, h1]; rfl⟩
            have hgi : decide ((np : Int) < (pn : Int)) = true := by simp; omega
            have hO := hOX.out.at hS.g hron
            have g : Below w.heap.size w wq := gX.trans (hS.g.mono hwn)
            go_wp2_with (go_at_call 77; refine (l4Runs_any kd _).mono ?_)
            rintro e wq ⟨rfl, rfl⟩
            clear HQ HL
            go_wp2_with (go_at_call 75; refine (l7Bad_any 1 _).mono ?_)
            rintro e WB ⟨rfl, gb⟩
            obtain ⟨o0, o1, o2, of0, of1, of2⟩ := (hO).at gb (hO).lt
            have gq := (g).trans (gb.mono (g).size)
            clear gb
            go_wp2_with fail
            refine bodyPost_ret (v := .agg #[.int .i64 1, .slice none 0 0, .slice none 0 0]) (by simp [results, Try.results32, go_sem, *]) rfl ?_
            rw [HX.out.1, HX.out.2]
            exact ar_bad (below_set3 gq hrb1 _ _ _)
          have HX : Hid (Q = 0 ∧ L = wpL ps pn (apP (pgOf ps pn) P Z m)) := by
            have h1 : Q = 0 := by rw [← HQ.out, if_neg (by omega)]
            exact ⟨h1, by rw [← HL.out, h1]; rfl⟩
          have hgi : decide ((np : Int) < (pn : Int)) = false := by simp; omega
          have de12 : ((pn : Int) == 12) = false := by simp; omega
          clear HQ HL
          by_cases hpn : pn = np
          · have deq : ((pn : Int) == (np : Int)) = true := by rw [hpn]; simp
            go_wp2_with (go_at_call 77; refine (l4Runs_any kd _).mono ?_)
            rintro e wq ⟨rfl, rfl⟩
            obtain ⟨zN, hzN⟩ : ∃ zN, newBytes 0 = zN := ⟨_, rfl⟩
            have HZN : Hid (newBytes 0 = zN) := hzN
            have hnew : ∀ W, Calls Try.prog 78 #[.int .u8 0] W fun e w' => ∃ g d, e = .returned (.slice (some ⟨g, 0, none⟩) 64 d) ∧ Below W.heap.size W w' ∧ W.heap.size ≤ g ∧ S64 d w' g zN := fun W => by rw [← HZN.out]; exact l2NewU_any W
            have HZl : Hid (zN.length = 64) := by show _ = _; rw [← hzN]; rfl
            obtain ⟨cur, hcur⟩ : ∃ cur, ps = cur := ⟨_, rfl⟩
            have HC : Hid (ps = cur) := hcur
            have HCl : Hid (cur.length = np) := by show _ = _; rw [← hcur]; exact HNp.out
            have HPn : Hid (pn = np) := hpn
            go_upto_region 20 with (fail)
            rw [hcur] at hS
            have hcl12 : cur.length ≤ 12 := by rw [HCl.out]; exact hn12
            clear hcur hpn hzN r0 r1 r2 r3 deq
            refine wp_region_held_drew (S := fun _ => True) (by kernel_rfl) trivial (fun hHeld => ?_)
            have hS := hS.below (Below.refl wq.heap.size wq).drew
            generalize wq.drew = D at hHeld hS ⊢
            refine wpAnyH_take (i := 0) (v := ?v48) rfl (by kernel_rfl) (by kernel_rfl) (by kernel_rfl) (fun _ _ _ h => h) (Or.inl ⟨by kernel_rfl, ?h48⟩) hHeld ?_
            case h48 => intro u hSw; skip; go_simp; try with_reducible rfl
            try simp only [List.getElem_toArray]
            try simp only [List.getElem_cons_succ]
            try simp only [List.getElem_cons_zero]
            try simp only [Act.put]
            try simp only [List.setIfInBounds_toArray]
            try simp only [List.set]
            refine wpAnyH_ready (rs := [1, 2]) (by kernel_rfl) (by simp) ?_
            refine AllReadyH.cons rfl (fun K hK => ?_) (AllReadyH.cons rfl (fun K hK => ?_) AllReadyH.nil)
            ·
              have c4 := hS.o.c2
              go_simp
              go_wp2_with fail
              refine hK.out _ _ trivial (fun hHeld => ?_)
              clear hK K c4
              try simp only [Act.put]
              try simp only [List.setIfInBounds_toArray]
              try simp only [List.set]
              refine wpAnyH_ready (rs := [2]) (by kernel_rfl) (by simp) ?_
              refine AllReadyH.cons rfl (fun K hK => ?_) AllReadyH.nil
              have hsD := hS.sz
              have hAf := hS.a
              have hol := hS.o.lt
              go_simp
              go_wp2_with (go_at_call 78; refine (hnew _).mono ?_; rintro e w6 ⟨ug, cu, rfl, g6, hge, h6⟩)
              refine hK.out _ _ (trivial) (fun hHeld => ?_)
              clear hK K
              have hfr : ∀ g, (Value.slice (some ⟨ug, 0, none⟩) 64 cu).ownBlock = some g → ¬ blkP (.slice x1 es.length k1) V1 g ∧ ¬ blkP (.slice x2 cur.length k2) V2 g ∧ g ≠ ob := fun g e => by
                have h1 : ug = g := by injection e
                exact ⟨fun hh => by have := (hAf.e.lt hh).2; omega, fun hh => by have := (hAf.p.lt hh).2; omega, fun hh => by omega⟩
              have hu : Gb n₀ w6 (.slice (some ⟨ug, 0, none⟩) 64 cu) zN := h6.gb (Nat.le_trans hsD hge)
              have hS := hS.below g6
              clear g6 hsD hAf hol h6 hge
              try simp only [Act.put]
              try simp only [List.setIfInBounds_toArray]
              try simp only [List.set]
              refine wpAnyH_ready (rs := [3]) (by kernel_rfl) (by simp) ?_
              refine AllReadyH.cons rfl (fun K hK => ?_) AllReadyH.nil
              have gL : Below w6.heap.size w6 (w6.alloc (.cells #[.slice (some ⟨ug, 0, none⟩) 64 cu] 106)) := (Below.refl _ w6).alloc (Nat.le_refl _) _
              have hcu : (w6.alloc (.cells #[.slice (some ⟨ug, 0, none⟩) 64 cu] 106)).cell? ⟨w6.heap.size, 0, none⟩ = some (.slice (some ⟨ug, 0, none⟩) 64 cu) := by simp [go_sem]
              go_simp
              go_wp2_with fail
              refine hK.out _ _ trivial (fun hHeld => ?_)
              clear hK K
              have hu := hu.below gL
              have hS := hS.below gL
              generalize w6.heap.size = nb at hcu gL ⊢
              generalize hW7 : w6.alloc (.cells #[.slice (some ⟨ug, 0, none⟩) 64 cu] 106) = w7 at hS hu hcu hHeld gL ⊢
              clear gL hW7
              try simp only [Act.put]
              try simp only [List.setIfInBounds_toArray]
              try simp only [List.set]
              refine wpAnyH_ready (rs := [4]) (by kernel_rfl) (by simp) ?_
              refine AllReadyH.cons rfl (fun K hK => ?_) AllReadyH.nil
              have hlow : ∀ q, (Value.slice x2 cur.length k2).ownBlock = some q → n₀ ≤ q := fun q e => (hS.a.p.row.lt q e).1
              rw [if_pos (by kernel_rfl)]
              refine wp_append_pg _ _ _ rfl n₀ _ cur.length V2 nb (.slice (some ⟨ug, 0, none⟩) 64 cu) rfl rfl hS.a.p.row hcu rfl (by omega) hS.sz ?_
              intro v' w8 hown' hgrow hob
              refine hK.out _ _ trivial (fun hHeld => ?_)
              clear hK K
              have hP3 := hS.a.p.append hu hown' hgrow
              have hs3 := sep_append hS.a.s2 (fun x hx g e1 e2 => (hfr g e1).2.1 (.inr ⟨x, hx, e2⟩))
              obtain ⟨x3, k3, hv3⟩ : ∃ x3 k3, v' = .slice x3 (cur ++ [zN]).length k3 := by obtain ⟨a3, c3, e3, _⟩ := hP3.own hs3; exact ⟨a3, c3, e3⟩
              subst hv3
              have hN := hS.pages (qs := cur ++ [zN]) hgrow (fun g e => .inl e) hP3 hs3 (fun g hh => by
                rcases blk_append hh hob with h1 | h1 | h1
                · exact .inl h1
                · exact .inr ⟨fun h2 => by have := (hS.a.e.lt h2).2; omega, fun h2 => by have := hS.o.lt; omega⟩
                · exact .inr ⟨(hfr g h1).1, (hfr g h1).2.2⟩)
              have c8 := (hS.o.grown hgrow (fun e => hS.n2 (.inl e))).c2
              have f8 := (hS.o.grown hgrow (fun e => hS.n2 (.inl e))).f2
              clear hown' hgrow hob hP3 hs3 hS hu hcu hlow hfr
              generalize (cur ++ [zN]).length = nl at hN c8 f8 ⊢
              try simp only [Act.put]
              try simp only [List.setIfInBounds_toArray]
              try simp only [List.set]
              refine wpAnyH_take (i := 5) (v := ?v49) rfl (by kernel_rfl) (by kernel_rfl) (by kernel_rfl) (fun _ _ _ h => h) (Or.inl ⟨by kernel_rfl, ?h49⟩) hHeld ?_
              case h49 => intro u hSw; skip; go_simp; try with_reducible rfl
              try simp only [List.getElem_toArray]
              try simp only [List.getElem_cons_succ]
              try simp only [List.getElem_cons_zero]
              try simp only [Act.put]
              try simp only [List.setIfInBounds_toArray]
              try simp only [List.set]
              refine wpAnyH_ready (rs := [6]) (by kernel_rfl) (by simp) ?_
              refine AllReadyH.cons rfl (fun K hK => ?_) AllReadyH.nil
              go_simp
              refine hK.out _ _ trivial (fun hHeld => ?_)
              clear hK K c8 f8
              try simp only [Act.put]
              try simp only [List.setIfInBounds_toArray]
              try simp only [List.set]
              refine wpAnyH_done (by kernel_rfl) ?_ _
              clear hHeld
              obtain ⟨qs, hqs⟩ : ∃ qs, cur ++ [zN] = qs := ⟨_, rfl⟩
              rw [hqs] at hN
              have HQs : Hid (cur ++ [zN] = qs) := hqs
              have hqn : qs.length = np + 1 := by rw [← hqs]; simp [HCl.out]
              clear hqs
              generalize w8.setCell ⟨ob, 2, none⟩ (.slice x3 nl k3) = wq at hN ⊢
              generalize V2 ++ [Value.slice (some ⟨ug, 0, none⟩) 64 cu] = V3 at hN
              have HCp : Hid (qs[pn]? = some zN) := by show _ = _; rw [← HQs.out, HPn.out, ← HCl.out]; simp
              have HCur : Hid (qs.set pn (apP zN P Z m) = wpL ps pn (apP (pgOf ps pn) P Z m)) := by
                show _ = _
                have e1 : pgOf ps pn = zN := by unfold pgOf; rw [HPn.out, ← HNp.out]; simp [HZN.out]
                rw [e1, HPn.out, ← HNp.out, wpL_new, ← HQs.out, ← HC.out]
                simp
              have HQn : Hid (qs.length = np + 1) := hqn
              have hpl : pn < qs.length := by have := HPn.out; omega
              have hq13 : qs.length ≤ 13 := by omega
              have hpi : (pn : Int) < (qs.length : Int) := by omega
              obtain ⟨gp, hx2⟩ : ∃ gp, x3 = some ⟨gp, 0, none⟩ := by
                rcases hN.a.p.row.2 with ⟨_, h0⟩ | ⟨gp, cap, cu, e, _⟩
                · omega
                · cases e; exact ⟨gp, rfl⟩
              subst hx2
              have hS := hN
              have HOl := HZl
              clear hN hqn
              obtain ⟨old, hold⟩ : ∃ old, zN = old := ⟨_, rfl⟩
              rw [hold] at HCp HOl HCur
              clear hold
              go_upto_region 21 with (fail)
              refine wp_region_held_drew (S := fun V => RcAt V rb kd tx (pn : Nat) a m c ∧ OutC V ob (.slice x1 es.length k1) (.slice (some ⟨gp, 0, none⟩) qs.length k3)) (by kernel_rfl) ⟨(hRX.out.at hS.g hrn).up (Below.refl _ wq).drew, hS.o.below (Below.refl _ wq).drew⟩ (fun hHeld => ?_)
              have hS := hS.below (Below.refl wq.heap.size wq).drew
              generalize wq.drew = D at hHeld hS ⊢
              obtain ⟨y0, hy0⟩ : ∃ y, V3[pn]? = some y := ⟨_, List.getElem?_eq_getElem (by rw [hS.a.p.len]; omega)⟩
              obtain ⟨ay, cy, fy, hye, hby, _⟩ := Gb.one (hS.a.p.by' pn y0 old hy0 HCp.out)
              have c9 := hS.a.p.row.cellAt pn (by omega)
              rw [hy0, hye, HOl.out] at c9
              have hrd : Reads D ay old := hby.reads
              clear hy0 hye hby
              refine wpAnyH_take (i := 0) (v := ?v50) rfl (by kernel_rfl) (by kernel_rfl) (by kernel_rfl) (fun _ _ _ h => h) (Or.inl ⟨by kernel_rfl, ?h50⟩) hHeld ?_
              case h50 => intro u hSw; obtain ⟨⟨q0, q1, q2, q3⟩, ⟨r0, r1, r2, _, _⟩⟩ := hSw; (try dsimp only at q0 q1 q2 q3 r0 r1 r2); go_simp; try with_reducible rfl
              try simp only [List.getElem_toArray]
              try simp only [List.getElem_cons_succ]
              try simp only [List.getElem_cons_zero]
              try simp only [Act.put]
              try simp only [List.setIfInBounds_toArray]
              try simp only [List.set]
              refine wpAnyH_take (i := 1) (v := ?v51) rfl (by kernel_rfl) (by kernel_rfl) (by kernel_rfl) (fun _ _ _ h => h) (Or.inl ⟨by kernel_rfl, ?h51⟩) hHeld ?_
              case h51 => intro u hSw; obtain ⟨⟨q0, q1, q2, q3⟩, ⟨r0, r1, r2, _, _⟩⟩ := hSw; (try dsimp only at q0 q1 q2 q3 r0 r1 r2); go_simp; try with_reducible rfl
              try simp only [List.getElem_toArray]
              try simp only [List.getElem_cons_succ]
              try simp only [List.getElem_cons_zero]
              try simp only [Act.put]
              try simp only [List.setIfInBounds_toArray]
              try simp only [List.set]
              refine wpAnyH_take (i := 2) (v := ?v52) rfl (by kernel_rfl) (by kernel_rfl) (by kernel_rfl) (fun _ _ _ h => h) (Or.inl ⟨by kernel_rfl, ?h52⟩) hHeld ?_
              case h52 => intro u hSw; obtain ⟨⟨q0, q1, q2, q3⟩, ⟨r0, r1, r2, _, _⟩⟩ := hSw; (try dsimp only at q0 q1 q2 q3 r0 r1 r2); go_simp; try with_reducible rfl
              try simp only [List.getElem_toArray]
              try simp only [List.getElem_cons_succ]
              try simp only [List.getElem_cons_zero]
              try simp only [Act.put]
              try simp only [List.setIfInBounds_toArray]
              try simp only [List.set]
              refine wpAnyH_take (i := 3) (v := ?v53) rfl (by kernel_rfl) (by kernel_rfl) (by kernel_rfl) (fun _ _ _ h => h) (Or.inl ⟨by kernel_rfl, ?h53⟩) hHeld ?_
              case h53 => intro u hSw; obtain ⟨⟨q0, q1, q2, q3⟩, ⟨r0, r1, r2, _, _⟩⟩ := hSw; (try dsimp only at q0 q1 q2 q3 r0 r1 r2); go_simp; try with_reducible rfl
              try simp only [List.getElem_toArray]
              try simp only [List.getElem_cons_succ]
              try simp only [List.getElem_cons_zero]
              try simp only [Act.put]
              try simp only [List.setIfInBounds_toArray]
              try simp only [List.set]
              refine wpAnyH_take (i := 4) (v := ?v54) rfl (by kernel_rfl) (by kernel_rfl) (by kernel_rfl) (fun _ _ _ h => h) (Or.inl ⟨by kernel_rfl, ?h54⟩) hHeld ?_
              case h54 => intro u hSw; obtain ⟨⟨q0, q1, q2, q3⟩, ⟨r0, r1, r2, _, _⟩⟩ := hSw; (try dsimp only at q0 q1 q2 q3 r0 r1 r2); go_simp; try with_reducible rfl
              try simp only [List.getElem_toArray]
              try simp only [List.getElem_cons_succ]
              try simp only [List.getElem_cons_zero]
              try simp only [Act.put]
              try simp only [List.setIfInBounds_toArray]
              try simp only [List.set]
              refine wpAnyH_take (i := 5) (v := ?v55) rfl (by kernel_rfl) (by kernel_rfl) (by kernel_rfl) (fun _ _ _ h => h) (Or.inl ⟨by kernel_rfl, ?h55⟩) hHeld ?_
              case h55 => intro u hSw; obtain ⟨⟨q0, q1, q2, q3⟩, ⟨r0, r1, r2, _, _⟩⟩ := hSw; (try dsimp only at q0 q1 q2 q3 r0 r1 r2); go_simp; try with_reducible rfl
              try simp only [List.getElem_toArray]
              try simp only [List.getElem_cons_succ]
              try simp only [List.getElem_cons_zero]
              try simp only [Act.put]
              try simp only [List.setIfInBounds_toArray]
              try simp only [List.set]
              refine wpAnyH_take (i := 6) (v := ?v56) rfl (by kernel_rfl) (by kernel_rfl) (by kernel_rfl) (fun _ _ _ h => h) (Or.inl ⟨by kernel_rfl, ?h56⟩) hHeld ?_
              case h56 => intro u hSw; obtain ⟨⟨q0, q1, q2, q3⟩, ⟨r0, r1, r2, _, _⟩⟩ := hSw; (try dsimp only at q0 q1 q2 q3 r0 r1 r2); go_simp; try with_reducible rfl
              try simp only [List.getElem_toArray]
              try simp only [List.getElem_cons_succ]
              try simp only [List.getElem_cons_zero]
              try simp only [Act.put]
              try simp only [List.setIfInBounds_toArray]
              try simp only [List.set]
              refine wpAnyH_take (i := 7) (v := ?v57) rfl (by kernel_rfl) (by kernel_rfl) (by kernel_rfl) (fun _ _ _ h => h) (Or.inl ⟨by kernel_rfl, ?h57⟩) hHeld ?_
              case h57 => intro u hSw; obtain ⟨⟨q0, q1, q2, q3⟩, ⟨r0, r1, r2, _, _⟩⟩ := hSw; (try dsimp only at q0 q1 q2 q3 r0 r1 r2); go_simp; try with_reducible rfl
              try simp only [List.getElem_toArray]
              try simp only [List.getElem_cons_succ]
              try simp only [List.getElem_cons_zero]
              try simp only [Act.put]
              try simp only [List.setIfInBounds_toArray]
              try simp only [List.set]
              refine wpAnyH_take (i := 8) (v := ?v58) rfl (by kernel_rfl) (by kernel_rfl) (by kernel_rfl) (fun _ _ _ h => h) (Or.inl ⟨by kernel_rfl, ?h58⟩) hHeld ?_
              case h58 => intro u hSw; obtain ⟨⟨q0, q1, q2, q3⟩, ⟨r0, r1, r2, _, _⟩⟩ := hSw; (try dsimp only at q0 q1 q2 q3 r0 r1 r2); go_simp; try with_reducible rfl
              try simp only [List.getElem_toArray]
              try simp only [List.getElem_cons_succ]
              try simp only [List.getElem_cons_zero]
              try simp only [Act.put]
              try simp only [List.setIfInBounds_toArray]
              try simp only [List.set]
              refine wpAnyH_take (i := 10) (v := ?v59) rfl (by kernel_rfl) (by kernel_rfl) (by kernel_rfl) (fun _ _ _ h => h) (Or.inl ⟨by kernel_rfl, ?h59⟩) hHeld ?_
              case h59 => intro u hSw; obtain ⟨⟨q0, q1, q2, q3⟩, ⟨r0, r1, r2, _, _⟩⟩ := hSw; (try dsimp only at q0 q1 q2 q3 r0 r1 r2); go_simp; try with_reducible rfl
              try simp only [List.getElem_toArray]
              try simp only [List.getElem_cons_succ]
              try simp only [List.getElem_cons_zero]
              try simp only [Act.put]
              try simp only [List.setIfInBounds_toArray]
              try simp only [List.set]
              refine wpAnyH_take (i := 11) (v := ?v60) rfl (by kernel_rfl) (by kernel_rfl) (by kernel_rfl) (fun _ _ _ h => h) (Or.inl ⟨by kernel_rfl, ?h60⟩) hHeld ?_
              case h60 => intro u hSw; obtain ⟨⟨q0, q1, q2, q3⟩, ⟨r0, r1, r2, _, _⟩⟩ := hSw; (try dsimp only at q0 q1 q2 q3 r0 r1 r2); go_simp; try with_reducible rfl
              try simp only [List.getElem_toArray]
              try simp only [List.getElem_cons_succ]
              try simp only [List.getElem_cons_zero]
              try simp only [Act.put]
              try simp only [List.setIfInBounds_toArray]
              try simp only [List.set]
              refine wpAnyH_ready (rs := [9]) (by kernel_rfl) (by simp) ?_
              refine AllReadyH.cons rfl (fun K hK => ?_) AllReadyH.nil
              have c4 := c9
              go_simp
              go_wp2_with fail
              refine hK.out _ _ hHeld (fun hHeld => ?_)
              clear hK K c4 c9
              try simp only [Act.put]
              try simp only [List.setIfInBounds_toArray]
              try simp only [List.set]
              refine wpAnyH_ready (rs := [12]) (by kernel_rfl) (by simp) ?_
              refine AllReadyH.cons rfl (fun K hK => ?_) AllReadyH.nil
              have hsD := hS.sz
              have hAf := hS.a
              have hol := hS.o.lt
              go_simp
              go_wp2_with (go_at_call 79; refine (l3ApplyG_any ay old cy a m c P A C Z _ hrd HOl.out HF0.out (HR.out _ (gX.trans (hS.g.mono hwn)))).mono ?_; rintro e w6 ⟨ug, cu, rfl, g6, hge, h6⟩)
              refine hK.out _ _ (⟨hHeld.1.up g6, hHeld.2.below g6⟩) (fun hHeld => ?_)
              clear hK K
              have hfr : ∀ g, (Value.slice (some ⟨ug, 0, none⟩) 64 cu).ownBlock = some g → ¬ blkP (.slice x1 es.length k1) V1 g ∧ ¬ blkP (.slice (some ⟨gp, 0, none⟩) qs.length k3) V3 g ∧ g ≠ ob := fun g e => by
                have h1 : ug = g := by injection e
                exact ⟨fun hh => by have := (hAf.e.lt hh).2; omega, fun hh => by have := (hAf.p.lt hh).2; omega, fun hh => by omega⟩
              have hu : Gb n₀ w6 (.slice (some ⟨ug, 0, none⟩) 64 cu) (apP old P Z m) := h6.gb (Nat.le_trans hsD hge)
              have hS := hS.below g6
              clear g6 hsD hAf hol h6 hge
              try simp only [Act.put]
              try simp only [List.setIfInBounds_toArray]
              try simp only [List.set]
              refine wpAnyH_take (i := 13) (v := ?v61) rfl (by kernel_rfl) (by kernel_rfl) (by kernel_rfl) (fun _ _ _ h => h) (Or.inl ⟨by kernel_rfl, ?h61⟩) hHeld ?_
              case h61 => intro u hSw; skip; go_simp; try with_reducible rfl
              try simp only [List.getElem_toArray]
              try simp only [List.getElem_cons_succ]
              try simp only [List.getElem_cons_zero]
              try simp only [Act.put]
              try simp only [List.setIfInBounds_toArray]
              try simp only [List.set]
              refine wpAnyH_ready (rs := [14]) (by kernel_rfl) (by simp) ?_
              refine AllReadyH.cons rfl (fun K hK => ?_) AllReadyH.nil
              have hN := hS.setPage (i := pn) (by omega) hu hfr
              obtain ⟨y1, hy1⟩ : ∃ y, V3[pn]? = some y := ⟨_, List.getElem?_eq_getElem (by rw [hS.a.p.len]; omega)⟩
              have c8 := hS.a.p.row.cellAt pn (by omega)
              rw [hy1] at c8
              have f8 : w6.frozen? ⟨gp, pn, none⟩ = false := hS.a.p.row.frozenAt _
              have hE9 := hRX.out.at hN.g hrn
              have hO9 := hHeld.2.grown (grownOut w6 gp pn (.slice (some ⟨ug, 0, none⟩) 64 cu)) (fun e => hS.n2 (.inl e))
              clear hS hu hfr hy1
              go_simp
              refine hK.out _ _ ⟨hE9, hO9⟩ (fun hHeld => ?_)
              clear hK K c8 f8 hE9 hO9
              try simp only [Act.put]
              try simp only [List.setIfInBounds_toArray]
              try simp only [List.set]
              refine wpAnyH_done (by kernel_rfl) ?_ _
              clear hHeld
              obtain ⟨rs, hrs⟩ : ∃ rs, qs.set pn (apP old P Z m) = rs := ⟨_, rfl⟩
              rw [hrs] at hN
              have HQr : Hid (qs.set pn (apP old P Z m) = rs) := hrs
              clear hrs
              generalize (V3.set pn (.slice (some ⟨ug, 0, none⟩) 64 cu)) = V3 at hN
              generalize w6.setCell ⟨gp, pn, none⟩ (.slice (some ⟨ug, 0, none⟩) 64 cu) = wZ at hN ⊢
              obtain ⟨o0, o1, o2, of0, of1, of2⟩ := hOX.out.at hN.g hron
              obtain ⟨p0, p1, p2, _, _⟩ := hN.o
              go_wp2_with fail
              refine bodyPost_ret (v := .agg #[.int .i64 0, .slice x1 es.length k1, .slice (some ⟨gp, 0, none⟩) rs.length k3]) (by simp [results, Try.results32, go_sem, *]) rfl ?_
              rw [HX.out.1, HX.out.2, ← HCur.out, HQr.out, ← HEs.out]
              exact ae_end hN gX hwn (turned_set3 _ _ _) hron hrb1
            ·
              have hsD := hS.sz
              have hAf := hS.a
              have hol := hS.o.lt
              go_simp
              go_wp2_with (go_at_call 78; refine (hnew _).mono ?_; rintro e w6 ⟨ug, cu, rfl, g6, hge, h6⟩)
              refine hK.out _ _ (trivial) (fun hHeld => ?_)
              clear hK K
              have hfr : ∀ g, (Value.slice (some ⟨ug, 0, none⟩) 64 cu).ownBlock = some g → ¬ blkP (.slice x1 es.length k1) V1 g ∧ ¬ blkP (.slice x2 cur.length k2) V2 g ∧ g ≠ ob := fun g e => by
                have h1 : ug = g := by injection e
                exact ⟨fun hh => by have := (hAf.e.lt hh).2; omega, fun hh => by have := (hAf.p.lt hh).2; omega, fun hh => by omega⟩
              have hu : Gb n₀ w6 (.slice (some ⟨ug, 0, none⟩) 64 cu) zN := h6.gb (Nat.le_trans hsD hge)
              have hS := hS.below g6
              clear g6 hsD hAf hol h6 hge
              try simp only [Act.put]
              try simp only [List.setIfInBounds_toArray]
              try simp only [List.set]
              refine wpAnyH_ready (rs := [1, 3]) (by kernel_rfl) (by simp) ?_
              refine AllReadyH.cons rfl (fun K hK => ?_) (AllReadyH.cons rfl (fun K hK => ?_) AllReadyH.nil)
              ·
                have c4 := hS.o.c2
                go_simp
                go_wp2_with fail
                refine hK.out _ _ trivial (fun hHeld => ?_)
                clear hK K c4
                try simp only [Act.put]
                try simp only [List.setIfInBounds_toArray]
                try simp only [List.set]
                refine wpAnyH_ready (rs := [3]) (by kernel_rfl) (by simp) ?_
                refine AllReadyH.cons rfl (fun K hK => ?_) AllReadyH.nil
                have gL : Below w6.heap.size w6 (w6.alloc (.cells #[.slice (some ⟨ug, 0, none⟩) 64 cu] 106)) := (Below.refl _ w6).alloc (Nat.le_refl _) _
                have hcu : (w6.alloc (.cells #[.slice (some ⟨ug, 0, none⟩) 64 cu] 106)).cell? ⟨w6.heap.size, 0, none⟩ = some (.slice (some ⟨ug, 0, none⟩) 64 cu) := by simp [go_sem]
                go_simp
                go_wp2_with fail
                refine hK.out _ _ trivial (fun hHeld => ?_)
                clear hK K
                have hu := hu.below gL
                have hS := hS.below gL
                generalize w6.heap.size = nb at hcu gL ⊢
                generalize hW7 : w6.alloc (.cells #[.slice (some ⟨ug, 0, none⟩) 64 cu] 106) = w7 at hS hu hcu hHeld gL ⊢
                clear gL hW7
                try simp only [Act.put]
                try simp only [List.setIfInBounds_toArray]
                try simp only [List.set]
                refine wpAnyH_ready (rs := [4]) (by kernel_rfl) (by simp) ?_
                refine AllReadyH.cons rfl (fun K hK => ?_) AllReadyH.nil
                have hlow : ∀ q, (Value.slice x2 cur.length k2).ownBlock = some q → n₀ ≤ q := fun q e => (hS.a.p.row.lt q e).1
                rw [if_pos (by kernel_rfl)]
                refine wp_append_pg _ _ _ rfl n₀ _ cur.length V2 nb (.slice (some ⟨ug, 0, none⟩) 64 cu) rfl rfl hS.a.p.row hcu rfl (by omega) hS.sz ?_
                intro v' w8 hown' hgrow hob
                refine hK.out _ _ trivial (fun hHeld => ?_)
                clear hK K
                have hP3 := hS.a.p.append hu hown' hgrow
                have hs3 := sep_append hS.a.s2 (fun x hx g e1 e2 => (hfr g e1).2.1 (.inr ⟨x, hx, e2⟩))
                obtain ⟨x3, k3, hv3⟩ : ∃ x3 k3, v' = .slice x3 (cur ++ [zN]).length k3 := by obtain ⟨a3, c3, e3, _⟩ := hP3.own hs3; exact ⟨a3, c3, e3⟩
                subst hv3
                have hN := hS.pages (qs := cur ++ [zN]) hgrow (fun g e => .inl e) hP3 hs3 (fun g hh => by
                  rcases blk_append hh hob with h1 | h1 | h1
                  · exact .inl h1
                  · exact .inr ⟨fun h2 => by have := (hS.a.e.lt h2).2; omega, fun h2 => by have := hS.o.lt; omega⟩
                  · exact .inr ⟨(hfr g h1).1, (hfr g h1).2.2⟩)
                have c8 := (hS.o.grown hgrow (fun e => hS.n2 (.inl e))).c2
                have f8 := (hS.o.grown hgrow (fun e => hS.n2 (.inl e))).f2
                clear hown' hgrow hob hP3 hs3 hS hu hcu hlow hfr
                generalize (cur ++ [zN]).length = nl at hN c8 f8 ⊢
                try simp only [Act.put]
                try simp only [List.setIfInBounds_toArray]
                try simp only [List.set]
                refine wpAnyH_take (i := 5) (v := ?v62) rfl (by kernel_rfl) (by kernel_rfl) (by kernel_rfl) (fun _ _ _ h => h) (Or.inl ⟨by kernel_rfl, ?h62⟩) hHeld ?_
                case h62 => intro u hSw; skip; go_simp; try with_reducible rfl
                try simp only [List.getElem_toArray]
                try simp only [List.getElem_cons_succ]
                try simp only [List.getElem_cons_zero]
                try simp only [Act.put]
                try simp only [List.setIfInBounds_toArray]
                try simp only [List.set]
                refine wpAnyH_ready (rs := [6]) (by kernel_rfl) (by simp) ?_
                refine AllReadyH.cons rfl (fun K hK => ?_) AllReadyH.nil
                go_simp
                refine hK.out _ _ trivial (fun hHeld => ?_)
                clear hK K c8 f8
                try simp only [Act.put]
                try simp only [List.setIfInBounds_toArray]
                try simp only [List.set]
                refine wpAnyH_done (by kernel_rfl) ?_ _
                clear hHeld
                obtain ⟨qs, hqs⟩ : ∃ qs, cur ++ [zN] = qs := ⟨_, rfl⟩
                rw [hqs] at hN
                have HQs : Hid (cur ++ [zN] = qs) := hqs
                have hqn : qs.length = np + 1 := by rw [← hqs]; simp [HCl.out]
                clear hqs
                generalize w8.setCell ⟨ob, 2, none⟩ (.slice x3 nl k3) = wq at hN ⊢
                generalize V2 ++ [Value.slice (some ⟨ug, 0, none⟩) 64 cu] = V3 at hN
                have HCp : Hid (qs[pn]? = some zN) := by show _ = _; rw [← HQs.out, HPn.out, ← HCl.out]; simp
                have HCur : Hid (qs.set pn (apP zN P Z m) = wpL ps pn (apP (pgOf ps pn) P Z m)) := by
                  show _ = _
                  have e1 : pgOf ps pn = zN := by unfold pgOf; rw [HPn.out, ← HNp.out]; simp [HZN.out]
                  rw [e1, HPn.out, ← HNp.out, wpL_new, ← HQs.out, ← HC.out]
                  simp
                have HQn : Hid (qs.length = np + 1) := hqn
                have hpl : pn < qs.length := by have := HPn.out; omega
                have hq13 : qs.length ≤ 13 := by omega
                have hpi : (pn : Int) < (qs.length : Int) := by omega
                obtain ⟨gp, hx2⟩ : ∃ gp, x3 = some ⟨gp, 0, none⟩ := by
                  rcases hN.a.p.row.2 with ⟨_, h0⟩ | ⟨gp, cap, cu, e, _⟩
                  · omega
                  · cases e; exact ⟨gp, rfl⟩
                subst hx2
                have hS := hN
                have HOl := HZl
                clear hN hqn
                obtain ⟨old, hold⟩ : ∃ old, zN = old := ⟨_, rfl⟩
                rw [hold] at HCp HOl HCur
                clear hold
                go_upto_region 21 with (fail)
                refine wp_region_held_drew (S := fun V => RcAt V rb kd tx (pn : Nat) a m c ∧ OutC V ob (.slice x1 es.length k1) (.slice (some ⟨gp, 0, none⟩) qs.length k3)) (by kernel_rfl) ⟨(hRX.out.at hS.g hrn).up (Below.refl _ wq).drew, hS.o.below (Below.refl _ wq).drew⟩ (fun hHeld => ?_)
                have hS := hS.below (Below.refl wq.heap.size wq).drew
                generalize wq.drew = D at hHeld hS ⊢
                obtain ⟨y0, hy0⟩ : ∃ y, V3[pn]? = some y := ⟨_, List.getElem?_eq_getElem (by rw [hS.a.p.len]; omega)⟩
                obtain ⟨ay, cy, fy, hye, hby, _⟩ := Gb.one (hS.a.p.by' pn y0 old hy0 HCp.out)
                have c9 := hS.a.p.row.cellAt pn (by omega)
                rw [hy0, hye, HOl.out] at c9
                have hrd : Reads D ay old := hby.reads
                clear hy0 hye hby
                refine wpAnyH_take (i := 0) (v := ?v63) rfl (by kernel_rfl) (by kernel_rfl) (by kernel_rfl) (fun _ _ _ h => h) (Or.inl ⟨by kernel_rfl, ?h63⟩) hHeld ?_
                case h63 => intro u hSw; obtain ⟨⟨q0, q1, q2, q3⟩, ⟨r0, r1, r2, _, _⟩⟩ := hSw; (try dsimp only at q0 q1 q2 q3 r0 r1 r2); go_simp; try with_reducible rfl
                try simp only [List.getElem_toArray]
                try simp only [List.getElem_cons_succ]
                try simp only [List.getElem_cons_zero]
                try simp only [Act.put]
                try simp only [List.setIfInBounds_toArray]
                try simp only [List.set]
                refine wpAnyH_take (i := 1) (v := ?v64) rfl (by kernel_rfl) (by kernel_rfl) (by kernel_rfl) (fun _ _ _ h => h) (Or.inl ⟨by kernel_rfl, ?h64⟩) hHeld ?_
                case h64 => intro u hSw; obtain ⟨⟨q0, q1, q2, q3⟩, ⟨r0, r1, r2, _, _⟩⟩ := hSw; (try dsimp only at q0 q1 q2 q3 r0 r1 r2); go_simp; try with_reducible rfl
                try simp only [List.getElem_toArray]
                try simp only [List.getElem_cons_succ]
                try simp only [List.getElem_cons_zero]
                try simp only [Act.put]
                try simp only [List.setIfInBounds_toArray]
                try simp only [List.set]
                refine wpAnyH_take (i := 2) (v := ?v65) rfl (by kernel_rfl) (by kernel_rfl) (by kernel_rfl) (fun _ _ _ h => h) (Or.inl ⟨by kernel_rfl, ?h65⟩) hHeld ?_
                case h65 => intro u hSw; obtain ⟨⟨q0, q1, q2, q3⟩, ⟨r0, r1, r2, _, _⟩⟩ := hSw; (try dsimp only at q0 q1 q2 q3 r0 r1 r2); go_simp; try with_reducible rfl
                try simp only [List.getElem_toArray]
                try simp only [List.getElem_cons_succ]
                try simp only [List.getElem_cons_zero]
                try simp only [Act.put]
                try simp only [List.setIfInBounds_toArray]
                try simp only [List.set]
                refine wpAnyH_take (i := 3) (v := ?v66) rfl (by kernel_rfl) (by kernel_rfl) (by kernel_rfl) (fun _ _ _ h => h) (Or.inl ⟨by kernel_rfl, ?h66⟩) hHeld ?_
                case h66 => intro u hSw; obtain ⟨⟨q0, q1, q2, q3⟩, ⟨r0, r1, r2, _, _⟩⟩ := hSw; (try dsimp only at q0 q1 q2 q3 r0 r1 r2); go_simp; try with_reducible rfl
                try simp only [List.getElem_toArray]
                try simp only [List.getElem_cons_succ]
                try simp only [List.getElem_cons_zero]
                try simp only [Act.put]
                try simp only [List.setIfInBounds_toArray]
                try simp only [List.set]
                refine wpAnyH_take (i := 4) (v := ?v67) rfl (by kernel_rfl) (by kernel_rfl) (by kernel_rfl) (fun _ _ _ h => h) (Or.inl ⟨by kernel_rfl, ?h67⟩) hHeld ?_
                case h67 => intro u hSw; obtain ⟨⟨q0, q1, q2, q3⟩, ⟨r0, r1, r2, _, _⟩⟩ := hSw; (try dsimp only at q0 q1 q2 q3 r0 r1 r2); go_simp; try with_reducible rfl
                try simp only [List.getElem_toArray]
                try simp only [List.getElem_cons_succ]
                try simp only [List.getElem_cons_zero]
                try simp only [Act.put]
                try simp only [List.setIfInBounds_toArray]
                try simp only [List.set]
                refine wpAnyH_take (i := 5) (v := ?v68) rfl (by kernel_rfl) (by kernel_rfl) (by kernel_rfl) (fun _ _ _ h => h) (Or.inl ⟨by kernel_rfl, ?h68⟩) hHeld ?_
                case h68 => intro u hSw; obtain ⟨⟨q0, q1, q2, q3⟩, ⟨r0, r1, r2, _, _⟩⟩ := hSw; (try dsimp only at q0 q1 q2 q3 r0 r1 r2); go_simp; try with_reducible rfl
                try simp only [List.getElem_toArray]
                try simp only [List.getElem_cons_succ]
                try simp only [List.getElem_cons_zero]
                try simp only [Act.put]
                try simp only [List.setIfInBounds_toArray]
                try simp only [List.set]
                refine wpAnyH_take (i := 6) (v := ?v69) rfl (by kernel_rfl) (by kernel_rfl) (by kernel_rfl) (fun _ _ _ h => h) (Or.inl ⟨by kernel_rfl, ?h69⟩) hHeld ?_
                case h69 => intro u hSw; obtain ⟨⟨q0, q1, q2, q3⟩, ⟨r0, r1, r2, _, _⟩⟩ := hSw; (try dsimp only at q0 q1 q2 q3 r0 r1 r2); go_simp; try with_reducible rfl
                try simp only [List.getElem_toArray]
                try simp only [List.getElem_cons_succ]
                try simp only [List.getElem_cons_zero]
                try simp only [Act.put]
                try simp only [List.setIfInBounds_toArray]
                try simp only [List.set]
                refine wpAnyH_take (i := 7) (v := ?v70) rfl (by kernel_rfl) (by kernel_rfl) (by kernel_rfl) (fun _ _ _ h => h) (Or.inl ⟨by kernel_rfl, ?h70⟩) hHeld ?_
                case h70 => intro u hSw; obtain ⟨⟨q0, q1, q2, q3⟩, ⟨r0, r1, r2, _, _⟩⟩ := hSw; (try dsimp only at q0 q1 q2 q3 r0 r1 r2); go_simp; try with_reducible rfl
                try simp only [List.getElem_toArray]
                try simp only [List.getElem_cons_succ]
                try simp only [List.getElem_cons_zero]
                try simp only [Act.put]
                try simp only [List.setIfInBounds_toArray]
                try simp only [List.set]
                refine wpAnyH_take (i := 8) (v := ?v71) rfl (by kernel_rfl) (by kernel_rfl) (by kernel_rfl) (fun _ _ _ h => h) (Or.inl ⟨by kernel_rfl, ?h71⟩) hHeld ?_
                case h71 => intro u hSw; obtain ⟨⟨q0, q1, q2, q3⟩, ⟨r0, r1, r2, _, _⟩⟩ := hSw; (try dsimp only at q0 q1 q2 q3 r0 r1 r2); go_simp; try with_reducible rfl
                try simp only [List.getElem_toArray]
                try simp only [List.getElem_cons_succ]
                try simp only [List.getElem_cons_zero]
                try simp only [Act.put]
                try simp only [List.setIfInBounds_toArray]
                try simp only [List.set]
                refine wpAnyH_take (i := 10) (v := ?v72) rfl (by kernel_rfl) (by kernel_rfl) (by kernel_rfl) (fun _ _ _ h => h) (Or.inl ⟨by kernel_rfl, ?h72⟩) hHeld ?_
                case h72 => intro u hSw; obtain ⟨⟨q0, q1, q2, q3⟩, ⟨r0, r1, r2, _, _⟩⟩ := hSw; (try dsimp only at q0 q1 q2 q3 r0 r1 r2); go_simp; try with_reducible rfl
                try simp only [List.getElem_toArray]
                try simp only [List.getElem_cons_succ]
                try simp only [List.getElem_cons_zero]
                try simp only [Act.put]
                try simp only [List.setIfInBounds_toArray]
                try simp only [List.set]
                refine wpAnyH_take (i := 11) (v := ?v73) rfl (by kernel_rfl) (by kernel_rfl) (by kernel_rfl) (fun _ _ _ h => h) (Or.inl ⟨by kernel_rfl, ?h73⟩) hHeld ?_
                case h73 => intro u hSw; obtain ⟨⟨q0, q1, q2, q3⟩, ⟨r0, r1, r2, _, _⟩⟩ := hSw; (try dsimp only at q0 q1 q2 q3 r0 r1 r2); go_simp; try with_reducible rfl
                try simp only [List.getElem_toArray]
                try simp only [List.getElem_cons_succ]
                try simp only [List.getElem_cons_zero]
                try simp only [Act.put]
                try simp only [List.setIfInBounds_toArray]
                try simp only [List.set]
                refine wpAnyH_ready (rs := [9]) (by kernel_rfl) (by simp) ?_
                refine AllReadyH.cons rfl (fun K hK => ?_) AllReadyH.nil
                have c4 := c9
                go_simp
                go_wp2_with fail
                refine hK.out _ _ hHeld (fun hHeld => ?_)
                clear hK K c4 c9
                try simp only [Act.put]
                try simp only [List.setIfInBounds_toArray]
                try simp only [List.set]
                refine wpAnyH_ready (rs := [12]) (by kernel_rfl) (by simp) ?_
                refine AllReadyH.cons rfl (fun K hK => ?_) AllReadyH.nil
                have hsD := hS.sz
                have hAf := hS.a
                have hol := hS.o.lt
                go_simp
                go_wp2_with (go_at_call 79; refine (l3ApplyG_any ay old cy a m c P A C Z _ hrd HOl.out HF0.out (HR.out _ (gX.trans (hS.g.mono hwn)))).mono ?_; rintro e w6 ⟨ug, cu, rfl, g6, hge, h6⟩)
                refine hK.out _ _ (⟨hHeld.1.up g6, hHeld.2.below g6⟩) (fun hHeld => ?_)
                clear hK K
                have hfr : ∀ g, (Value.slice (some ⟨ug, 0, none⟩) 64 cu).ownBlock = some g → ¬ blkP (.slice x1 es.length k1) V1 g ∧ ¬ blkP (.slice (some ⟨gp, 0, none⟩) qs.length k3) V3 g ∧ g ≠ ob := fun g e => by
                  have h1 : ug = g := by injection e
                  exact ⟨fun hh => by have := (hAf.e.lt hh).2; omega, fun hh => by have := (hAf.p.lt hh).2; omega, fun hh => by omega⟩
                have hu : Gb n₀ w6 (.slice (some ⟨ug, 0, none⟩) 64 cu) (apP old P Z m) := h6.gb (Nat.le_trans hsD hge)
                have hS := hS.below g6
                clear g6 hsD hAf hol h6 hge
                try simp only [Act.put]
                try simp only [List.setIfInBounds_toArray]
                try simp only [List.set]
                refine wpAnyH_take (i := 13) (v := ?v74) rfl (by kernel_rfl) (by kernel_rfl) (by kernel_rfl) (fun _ _ _ h => h) (Or.inl ⟨by kernel_rfl, ?h74⟩) hHeld ?_
                case h74 => intro u hSw; skip; go_simp; try with_reducible rfl
                try simp only [List.getElem_toArray]
                try simp only [List.getElem_cons_succ]
                try simp only [List.getElem_cons_zero]
                try simp only [Act.put]
                try simp only [List.setIfInBounds_toArray]
                try simp only [List.set]
                refine wpAnyH_ready (rs := [14]) (by kernel_rfl) (by simp) ?_
                refine AllReadyH.cons rfl (fun K hK => ?_) AllReadyH.nil
                have hN := hS.setPage (i := pn) (by omega) hu hfr
                obtain ⟨y1, hy1⟩ : ∃ y, V3[pn]? = some y := ⟨_, List.getElem?_eq_getElem (by rw [hS.a.p.len]; omega)⟩
                have c8 := hS.a.p.row.cellAt pn (by omega)
                rw [hy1] at c8
                have f8 : w6.frozen? ⟨gp, pn, none⟩ = false := hS.a.p.row.frozenAt _
                have hE9 := hRX.out.at hN.g hrn
                have hO9 := hHeld.2.grown (grownOut w6 gp pn (.slice (some ⟨ug, 0, none⟩) 64 cu)) (fun e => hS.n2 (.inl e))
                clear hS hu hfr hy1
                go_simp
                refine hK.out _ _ ⟨hE9, hO9⟩ (fun hHeld => ?_)
                clear hK K c8 f8 hE9 hO9
                try simp only [Act.put]
                try simp only [List.setIfInBounds_toArray]
                try simp only [List.set]
                refine wpAnyH_done (by kernel_rfl) ?_ _
                clear hHeld
                obtain ⟨rs, hrs⟩ : ∃ rs, qs.set pn (apP old P Z m) = rs := ⟨_, rfl⟩
                rw [hrs] at hN
                have HQr : Hid (qs.set pn (apP old P Z m) = rs) := hrs
                clear hrs
                generalize (V3.set pn (.slice (some ⟨ug, 0, none⟩) 64 cu)) = V3 at hN
                generalize w6.setCell ⟨gp, pn, none⟩ (.slice (some ⟨ug, 0, none⟩) 64 cu) = wZ at hN ⊢
                obtain ⟨o0, o1, o2, of0, of1, of2⟩ := hOX.out.at hN.g hron
                obtain ⟨p0, p1, p2, _, _⟩ := hN.o
                go_wp2_with fail
                refine bodyPost_ret (v := .agg #[.int .i64 0, .slice x1 es.length k1, .slice (some ⟨gp, 0, none⟩) rs.length k3]) (by simp [results, Try.results32, go_sem, *]) rfl ?_
                rw [HX.out.1, HX.out.2, ← HCur.out, HQr.out, ← HEs.out]
                exact ae_end hN gX hwn (turned_set3 _ _ _) hron hrb1
              ·
                have gL : Below w6.heap.size w6 (w6.alloc (.cells #[.slice (some ⟨ug, 0, none⟩) 64 cu] 106)) := (Below.refl _ w6).alloc (Nat.le_refl _) _
                have hcu : (w6.alloc (.cells #[.slice (some ⟨ug, 0, none⟩) 64 cu] 106)).cell? ⟨w6.heap.size, 0, none⟩ = some (.slice (some ⟨ug, 0, none⟩) 64 cu) := by simp [go_sem]
                go_simp
                go_wp2_with fail
                refine hK.out _ _ trivial (fun hHeld => ?_)
                clear hK K
                have hu := hu.below gL
                have hS := hS.below gL
                generalize w6.heap.size = nb at hcu gL ⊢
                generalize hW7 : w6.alloc (.cells #[.slice (some ⟨ug, 0, none⟩) 64 cu] 106) = w7 at hS hu hcu hHeld gL ⊢
                clear gL hW7
                try simp only [Act.put]
                try simp only [List.setIfInBounds_toArray]
                try simp only [List.set]
                refine wpAnyH_ready (rs := [1]) (by kernel_rfl) (by simp) ?_
                refine AllReadyH.cons rfl (fun K hK => ?_) AllReadyH.nil
                have c4 := hS.o.c2
                go_simp
                go_wp2_with fail
                refine hK.out _ _ trivial (fun hHeld => ?_)
                clear hK K c4
                try simp only [Act.put]
                try simp only [List.setIfInBounds_toArray]
                try simp only [List.set]
                refine wpAnyH_ready (rs := [4]) (by kernel_rfl) (by simp) ?_
                refine AllReadyH.cons rfl (fun K hK => ?_) AllReadyH.nil
                have hlow : ∀ q, (Value.slice x2 cur.length k2).ownBlock = some q → n₀ ≤ q := fun q e => (hS.a.p.row.lt q e).1
                rw [if_pos (by kernel_rfl)]
                refine wp_append_pg _ _ _ rfl n₀ _ cur.length V2 nb (.slice (some ⟨ug, 0, none⟩) 64 cu) rfl rfl hS.a.p.row hcu rfl (by omega) hS.sz ?_
                intro v' w8 hown' hgrow hob
                refine hK.out _ _ trivial (fun hHeld => ?_)
                clear hK K
                have hP3 := hS.a.p.append hu hown' hgrow
                have hs3 := sep_append hS.a.s2 (fun x hx g e1 e2 => (hfr g e1).2.1 (.inr ⟨x, hx, e2⟩))
                obtain ⟨x3, k3, hv3⟩ : ∃ x3 k3, v' = .slice x3 (cur ++ [zN]).length k3 := by obtain ⟨a3, c3, e3, _⟩ := hP3.own hs3; exact ⟨a3, c3, e3⟩
                subst hv3
                have hN := hS.pages (qs := cur ++ [zN]) hgrow (fun g e => .inl e) hP3 hs3 (fun g hh => by
                  rcases blk_append hh hob with h1 | h1 | h1
                  · exact .inl h1
                  · exact .inr ⟨fun h2 => by have := (hS.a.e.lt h2).2; omega, fun h2 => by have := hS.o.lt; omega⟩
                  · exact .inr ⟨(hfr g h1).1, (hfr g h1).2.2⟩)
                have c8 := (hS.o.grown hgrow (fun e => hS.n2 (.inl e))).c2
                have f8 := (hS.o.grown hgrow (fun e => hS.n2 (.inl e))).f2
                clear hown' hgrow hob hP3 hs3 hS hu hcu hlow hfr
                generalize (cur ++ [zN]).length = nl at hN c8 f8 ⊢
                try simp only [Act.put]
                try simp only [List.setIfInBounds_toArray]
                try simp only [List.set]
                refine wpAnyH_take (i := 5) (v := ?v75) rfl (by kernel_rfl) (by kernel_rfl) (by kernel_rfl) (fun _ _ _ h => h) (Or.inl ⟨by kernel_rfl, ?h75⟩) hHeld ?_
                case h75 => intro u hSw; skip; go_simp; try with_reducible rfl
                try simp only [List.getElem_toArray]
                try simp only [List.getElem_cons_succ]
                try simp only [List.getElem_cons_zero]
                try simp only [Act.put]
                try simp only [List.setIfInBounds_toArray]
                try simp only [List.set]
                refine wpAnyH_ready (rs := [6]) (by kernel_rfl) (by simp) ?_
                refine AllReadyH.cons rfl (fun K hK => ?_) AllReadyH.nil
                go_simp
                refine hK.out _ _ trivial (fun hHeld => ?_)
                clear hK K c8 f8
                try simp only [Act.put]
                try simp only [List.setIfInBounds_toArray]
                try simp only [List.set]
                refine wpAnyH_done (by kernel_rfl) ?_ _
                clear hHeld
                obtain ⟨qs, hqs⟩ : ∃ qs, cur ++ [zN] = qs := ⟨_, rfl⟩
                rw [hqs] at hN
                have HQs : Hid (cur ++ [zN] = qs) := hqs
                have hqn : qs.length = np + 1 := by rw [← hqs]; simp [HCl.out]
                clear hqs
                generalize w8.setCell ⟨ob, 2, none⟩ (.slice x3 nl k3) = wq at hN ⊢
                generalize V2 ++ [Value.slice (some ⟨ug, 0, none⟩) 64 cu] = V3 at hN
                have HCp : Hid (qs[pn]? = some zN) := by show _ = _; rw [← HQs.out, HPn.out, ← HCl.out]; simp
                have HCur : Hid (qs.set pn (apP zN P Z m) = wpL ps pn (apP (pgOf ps pn) P Z m)) := by
                  show _ = _
                  have e1 : pgOf ps pn = zN := by unfold pgOf; rw [HPn.out, ← HNp.out]; simp [HZN.out]
                  rw [e1, HPn.out, ← HNp.out, wpL_new, ← HQs.out, ← HC.out]
                  simp
                have HQn : Hid (qs.length = np + 1) := hqn
                have hpl : pn < qs.length := by have := HPn.out; omega
                have hq13 : qs.length ≤ 13 := by omega
                have hpi : (pn : Int) < (qs.length : Int) := by omega
                obtain ⟨gp, hx2⟩ : ∃ gp, x3 = some ⟨gp, 0, none⟩ := by
                  rcases hN.a.p.row.2 with ⟨_, h0⟩ | ⟨gp, cap, cu, e, _⟩
                  · omega
                  · cases e; exact ⟨gp, rfl⟩
                subst hx2
                have hS := hN
                have HOl := HZl
                clear hN hqn
                obtain ⟨old, hold⟩ : ∃ old, zN = old := ⟨_, rfl⟩
                rw [hold] at HCp HOl HCur
                clear hold
                go_upto_region 21 with (fail)
                refine wp_region_held_drew (S := fun V => RcAt V rb kd tx (pn : Nat) a m c ∧ OutC V ob (.slice x1 es.length k1) (.slice (some ⟨gp, 0, none⟩) qs.length k3)) (by kernel_rfl) ⟨(hRX.out.at hS.g hrn).up (Below.refl _ wq).drew, hS.o.below (Below.refl _ wq).drew⟩ (fun hHeld => ?_)
                have hS := hS.below (Below.refl wq.heap.size wq).drew
                generalize wq.drew = D at hHeld hS ⊢
                obtain ⟨y0, hy0⟩ : ∃ y, V3[pn]? = some y := ⟨_, List.getElem?_eq_getElem (by rw [hS.a.p.len]; omega)⟩
                obtain ⟨ay, cy, fy, hye, hby, _⟩ := Gb.one (hS.a.p.by' pn y0 old hy0 HCp.out)
                have c9 := hS.a.p.row.cellAt pn (by omega)
                rw [hy0, hye, HOl.out] at c9
                have hrd : Reads D ay old := hby.reads
                clear hy0 hye hby
                refine wpAnyH_take (i := 0) (v := ?v76) rfl (by kernel_rfl) (by kernel_rfl) (by kernel_rfl) (fun _ _ _ h => h) (Or.inl ⟨by kernel_rfl, ?h76⟩) hHeld ?_
                case h76 => intro u hSw; obtain ⟨⟨q0, q1, q2, q3⟩, ⟨r0, r1, r2, _, _⟩⟩ := hSw; (try dsimp only at q0 q1 q2 q3 r0 r1 r2); go_simp; try with_reducible rfl
                try simp only [List.getElem_toArray]
                try simp only [List.getElem_cons_succ]
                try simp only [List.getElem_cons_zero]
                try simp only [Act.put]
                try simp only [List.setIfInBounds_toArray]
                try simp only [List.set]
                refine wpAnyH_take (i := 1) (v := ?v77) rfl (by kernel_rfl) (by kernel_rfl) (by kernel_rfl) (fun _ _ _ h => h) (Or.inl ⟨by kernel_rfl, ?h77⟩) hHeld ?_
                case h77 => intro u hSw; obtain ⟨⟨q0, q1, q2, q3⟩, ⟨r0, r1, r2, _, _⟩⟩ := hSw; (try dsimp only at q0 q1 q2 q3 r0 r1 r2); go_simp; try with_reducible rfl
                try simp only [List.getElem_toArray]
                try simp only [List.getElem_cons_succ]
                try simp only [List.getElem_cons_zero]
                try simp only [Act.put]
                try simp only [List.setIfInBounds_toArray]
                try simp only [List.set]
                refine wpAnyH_take (i := 2) (v := ?v78) rfl (by kernel_rfl) (by kernel_rfl) (by kernel_rfl) (fun _ _ _ h => h) (Or.inl ⟨by kernel_rfl, ?h78⟩) hHeld ?_
                case h78 => intro u hSw; obtain ⟨⟨q0, q1, q2, q3⟩, ⟨r0, r1, r2, _, _⟩⟩ := hSw; (try dsimp only at q0 q1 q2 q3 r0 r1 r2); go_simp; try with_reducible rfl
                try simp only [List.getElem_toArray]
                try simp only [List.getElem_cons_succ]
                try simp only [List.getElem_cons_zero]
                try simp only [Act.put]
                try simp only [List.setIfInBounds_toArray]
                try simp only [List.set]
                refine wpAnyH_take (i := 3) (v := ?v79) rfl (by kernel_rfl) (by kernel_rfl) (by kernel_rfl) (fun _ _ _ h => h) (Or.inl ⟨by kernel_rfl, ?h79⟩) hHeld ?_
                case h79 => intro u hSw; obtain ⟨⟨q0, q1, q2, q3⟩, ⟨r0, r1, r2, _, _⟩⟩ := hSw; (try dsimp only at q0 q1 q2 q3 r0 r1 r2); go_simp; try with_reducible rfl
                try simp only [List.getElem_toArray]
                try simp only [List.getElem_cons_succ]
                try simp only [List.getElem_cons_zero]
                try simp only [Act.put]
                try simp only [List.setIfInBounds_toArray]
                try simp only [List.set]
                refine wpAnyH_take (i := 4) (v := ?v80) rfl (by kernel_rfl) (by kernel_rfl) (by kernel_rfl) (fun _ _ _ h => h) (Or.inl ⟨by kernel_rfl, ?h80⟩) hHeld ?_
                case h80 => intro u hSw; obtain ⟨⟨q0, q1, q2, q3⟩, ⟨r0, r1, r2, _, _⟩⟩ := hSw; (try dsimp only at q0 q1 q2 q3 r0 r1 r2); go_simp; try with_reducible rfl
                try simp only [List.getElem_toArray]
                try simp only [List.getElem_cons_succ]
                try simp only [List.getElem_cons_zero]
                try simp only [Act.put]
                try simp only [List.setIfInBounds_toArray]
                try simp only [List.set]
                refine wpAnyH_take (i := 5) (v := ?v81) rfl (by kernel_rfl) (by kernel_rfl) (by kernel_rfl) (fun _ _ _ h => h) (Or.inl ⟨by kernel_rfl, ?h81⟩) hHeld ?_
                case h81 => intro u hSw; obtain ⟨⟨q0, q1, q2, q3⟩, ⟨r0, r1, r2, _, _⟩⟩ := hSw; (try dsimp only at q0 q1 q2 q3 r0 r1 r2); go_simp; try with_reducible rfl
                try simp only [List.getElem_toArray]
                try simp only [List.getElem_cons_succ]
                try simp only [List.getElem_cons_zero]
                try simp only [Act.put]
                try simp only [List.setIfInBounds_toArray]
                try simp only [List.set]
                refine wpAnyH_take (i := 6) (v := ?v82) rfl (by kernel_rfl) (by kernel_rfl) (by kernel_rfl) (fun _ _ _ h => h) (Or.inl ⟨by kernel_rfl, ?h82⟩) hHeld ?_
                case h82 => intro u hSw; obtain ⟨⟨q0, q1, q2, q3⟩, ⟨r0, r1, r2, _, _⟩⟩ := hSw; (try dsimp only at q0 q1 q2 q3 r0 r1 r2); go_simp; try with_reducible rfl
                try simp only [List.getElem_toArray]
                try simp only [List.getElem_cons_succ]
                try simp only [List.getElem_cons_zero]
                try simp only [Act.put]
                try simp only [List.setIfInBounds_toArray]
                try simp only [List.set]
                refine wpAnyH_take (i := 7) (v := ?v83) rfl (by kernel_rfl) (by kernel_rfl) (by kernel_rfl) (fun _ _ _ h => h) (Or.inl ⟨by kernel_rfl, ?h83⟩) hHeld ?_
                case h83 => intro u hSw; obtain ⟨⟨q0, q1, q2, q3⟩, ⟨r0, r1, r2, _, _⟩⟩ := hSw; (try dsimp only at q0 q1 q2 q3 r0 r1 r2); go_simp; try with_reducible rfl
                try simp only [List.getElem_toArray]
                try simp only [List.getElem_cons_succ]
                try simp only [List.getElem_cons_zero]
                try simp only [Act.put]
                try simp only [List.setIfInBounds_toArray]
                try simp only [List.set]
                refine wpAnyH_take (i := 8) (v := ?v84) rfl (by kernel_rfl) (by kernel_rfl) (by kernel_rfl) (fun _ _ _ h => h) (Or.inl ⟨by kernel_rfl, ?h84⟩) hHeld ?_
                case h84 => intro u hSw; obtain ⟨⟨q0, q1, q2, q3⟩, ⟨r0, r1, r2, _, _⟩⟩ := hSw; (try dsimp only at q0 q1 q2 q3 r0 r1 r2); go_simp; try with_reducible rfl
                try simp only [List.getElem_toArray]
                try simp only [List.getElem_cons_succ]
                try simp only [List.getElem_cons_zero]
                try simp only [Act.put]
                try simp only [List.setIfInBounds_toArray]
                try simp only [List.set]
                refine wpAnyH_take (i := 10) (v := ?v85) rfl (by kernel_rfl) (by kernel_rfl) (by kernel_rfl) (fun _ _ _ h => h) (Or.inl ⟨by kernel_rfl, ?h85⟩) hHeld ?_
                case h85 => intro u hSw; obtain ⟨⟨q0, q1, q2, q3⟩, ⟨r0, r1, r2, _, _⟩⟩ := hSw; (try dsimp only at q0 q1 q2 q3 r0 r1 r2); go_simp; try with_reducible rfl
                try simp only [List.getElem_toArray]
                try simp only [List.getElem_cons_succ]
                try simp only [List.getElem_cons_zero]
                try simp only [Act.put]
                try simp only [List.setIfInBounds_toArray]
                try simp only [List.set]
                refine wpAnyH_take (i := 11) (v := ?v86) rfl (by kernel_rfl) (by kernel_rfl) (by kernel_rfl) (fun _ _ _ h => h) (Or.inl ⟨by kernel_rfl, ?h86⟩) hHeld ?_
                case h86 => intro u hSw; obtain ⟨⟨q0, q1, q2, q3⟩, ⟨r0, r1, r2, _, _⟩⟩ := hSw; (try dsimp only at q0 q1 q2 q3 r0 r1 r2); go_simp; try with_reducible rfl
                try simp only [List.getElem_toArray]
                try simp only [List.getElem_cons_succ]
                try simp only [List.getElem_cons_zero]
                try simp only [Act.put]
                try simp only [List.setIfInBounds_toArray]
                try simp only [List.set]
                refine wpAnyH_ready (rs := [9]) (by kernel_rfl) (by simp) ?_
                refine AllReadyH.cons rfl (fun K hK => ?_) AllReadyH.nil
                have c4 := c9
                go_simp
                go_wp2_with fail
                refine hK.out _ _ hHeld (fun hHeld => ?_)
                clear hK K c4 c9
                try simp only [Act.put]
                try simp only [List.setIfInBounds_toArray]
                try simp only [List.set]
                refine wpAnyH_ready (rs := [12]) (by kernel_rfl) (by simp) ?_
                refine AllReadyH.cons rfl (fun K hK => ?_) AllReadyH.nil
                have hsD := hS.sz
                have hAf := hS.a
                have hol := hS.o.lt
                go_simp
                go_wp2_with (go_at_call 79; refine (l3ApplyG_any ay old cy a m c P A C Z _ hrd HOl.out HF0.out (HR.out _ (gX.trans (hS.g.mono hwn)))).mono ?_; rintro e w6 ⟨ug, cu, rfl, g6, hge, h6⟩)
                refine hK.out _ _ (⟨hHeld.1.up g6, hHeld.2.below g6⟩) (fun hHeld => ?_)
                clear hK K
                have hfr : ∀ g, (Value.slice (some ⟨ug, 0, none⟩) 64 cu).ownBlock = some g → ¬ blkP (.slice x1 es.length k1) V1 g ∧ ¬ blkP (.slice (some ⟨gp, 0, none⟩) qs.length k3) V3 g ∧ g ≠ ob := fun g e => by
                  have h1 : ug = g := by injection e
                  exact ⟨fun hh => by have := (hAf.e.lt hh).2; omega, fun hh => by have := (hAf.p.lt hh).2; omega, fun hh => by omega⟩
                have hu : Gb n₀ w6 (.slice (some ⟨ug, 0, none⟩) 64 cu) (apP old P Z m) := h6.gb (Nat.le_trans hsD hge)
                have hS := hS.below g6
                clear g6 hsD hAf hol h6 hge
                try simp only [Act.put]
                try simp only [List.setIfInBounds_toArray]
                try simp only [List.set]
                refine wpAnyH_take (i := 13) (v := ?v87) rfl (by kernel_rfl) (by kernel_rfl) (by kernel_rfl) (fun _ _ _ h => h) (Or.inl ⟨by kernel_rfl, ?h87⟩) hHeld ?_
                case h87 => intro u hSw; skip; go_simp; try with_reducible rfl
                try simp only [List.getElem_toArray]
                try simp only [List.getElem_cons_succ]
                try simp only [List.getElem_cons_zero]
                try simp only [Act.put]
                try simp only [List.setIfInBounds_toArray]
                try simp only [List.set]
                refine wpAnyH_ready (rs := [14]) (by kernel_rfl) (by simp) ?_
                refine AllReadyH.cons rfl (fun K hK => ?_) AllReadyH.nil
                have hN := hS.setPage (i := pn) (by omega) hu hfr
                obtain ⟨y1, hy1⟩ : ∃ y, V3[pn]? = some y := ⟨_, List.getElem?_eq_getElem (by rw [hS.a.p.len]; omega)⟩
                have c8 := hS.a.p.row.cellAt pn (by omega)
                rw [hy1] at c8
                have f8 : w6.frozen? ⟨gp, pn, none⟩ = false := hS.a.p.row.frozenAt _
                have hE9 := hRX.out.at hN.g hrn
                have hO9 := hHeld.2.grown (grownOut w6 gp pn (.slice (some ⟨ug, 0, none⟩) 64 cu)) (fun e => hS.n2 (.inl e))
                clear hS hu hfr hy1
                go_simp
                refine hK.out _ _ ⟨hE9, hO9⟩ (fun hHeld => ?_)
                clear hK K c8 f8 hE9 hO9
                try simp only [Act.put]
                try simp only [List.setIfInBounds_toArray]
                try simp only [List.set]
                refine wpAnyH_done (by kernel_rfl) ?_ _
                clear hHeld
                obtain ⟨rs, hrs⟩ : ∃ rs, qs.set pn (apP old P Z m) = rs := ⟨_, rfl⟩
                rw [hrs] at hN
                have HQr : Hid (qs.set pn (apP old P Z m) = rs) := hrs
                clear hrs
                generalize (V3.set pn (.slice (some ⟨ug, 0, none⟩) 64 cu)) = V3 at hN
                generalize w6.setCell ⟨gp, pn, none⟩ (.slice (some ⟨ug, 0, none⟩) 64 cu) = wZ at hN ⊢
                obtain ⟨o0, o1, o2, of0, of1, of2⟩ := hOX.out.at hN.g hron
                obtain ⟨p0, p1, p2, _, _⟩ := hN.o
                go_wp2_with fail
                refine bodyPost_ret (v := .agg #[.int .i64 0, .slice x1 es.length k1, .slice (some ⟨gp, 0, none⟩) rs.length k3]) (by simp [results, Try.results32, go_sem, *]) rfl ?_
                rw [HX.out.1, HX.out.2, ← HCur.out, HQr.out, ← HEs.out]
                exact ae_end hN gX hwn (turned_set3 _ _ _) hron hrb1
          · have deq : ((pn : Int) == (np : Int)) = false := by simp; omega
            go_wp2_with (go_at_call 77; refine (l4Runs_any kd _).mono ?_)
            rintro e wq ⟨rfl, rfl⟩
            obtain ⟨old, hold⟩ : ∃ old, ps[pn]? = some old := ⟨_, List.getElem?_eq_getElem (by rw [HNp.out]; omega)⟩
            have HCp : Hid (ps[pn]? = some old) := hold
            have HOl : Hid (old.length = 64) := HAll.out old (List.mem_of_getElem? hold)
            have HCur : Hid (ps.set pn (apP old P Z m) = wpL ps pn (apP (pgOf ps pn) P Z m)) := by
              show _ = _
              have e1 : pgOf ps pn = old := by unfold pgOf; rw [List.getD_eq_getElem?_getD, hold]; rfl
              rw [e1, wpL_old _ (by rw [HNp.out]; omega)]
            go_upto_region 21 with (fail)
            have hpl : pn < ps.length := by rw [HNp.out]; omega
            have hpi : (pn : Int) < (ps.length : Int) := by omega
            obtain ⟨gp, hx2⟩ : ∃ gp, x2 = some ⟨gp, 0, none⟩ := by
              rcases hS.a.p.row.2 with ⟨_, h0⟩ | ⟨gp, cap, cu, e, _⟩
              · omega
              · cases e; exact ⟨gp, rfl⟩
            subst hx2
            clear hold r0 r1 r2 r3 deq
            refine wp_region_held_drew (S := fun V => RcAt V rb kd tx (pn : Nat) a m c ∧ OutC V ob (.slice x1 es.length k1) (.slice (some ⟨gp, 0, none⟩) ps.length k2)) (by kernel_rfl) ⟨(hRX.out.at hS.g hrn).up (Below.refl _ wq).drew, hS.o.below (Below.refl _ wq).drew⟩ (fun hHeld => ?_)
            have hS := hS.below (Below.refl wq.heap.size wq).drew
            generalize wq.drew = D at hHeld hS ⊢
            obtain ⟨y0, hy0⟩ : ∃ y, V2[pn]? = some y := ⟨_, List.getElem?_eq_getElem (by rw [hS.a.p.len]; omega)⟩
            obtain ⟨ay, cy, fy, hye, hby, _⟩ := Gb.one (hS.a.p.by' pn y0 old hy0 HCp.out)
            have c9 := hS.a.p.row.cellAt pn (by omega)
            rw [hy0, hye, HOl.out] at c9
            have hrd : Reads D ay old := hby.reads
            clear hy0 hye hby
            refine wpAnyH_take (i := 0) (v := ?v88) rfl (by kernel_rfl) (by kernel_rfl) (by kernel_rfl) (fun _ _ _ h => h) (Or.inl ⟨by kernel_rfl, ?h88⟩) hHeld ?_
            case h88 => intro u hSw; obtain ⟨⟨q0, q1, q2, q3⟩, ⟨r0, r1, r2, _, _⟩⟩ := hSw; (try dsimp only at q0 q1 q2 q3 r0 r1 r2); go_simp; try with_reducible rfl
            try simp only [List.getElem_toArray]
            try simp only [List.getElem_cons_succ]
            try simp only [List.getElem_cons_zero]
            try simp only [Act.put]
            try simp only [List.setIfInBounds_toArray]
            try simp only [List.set]
            refine wpAnyH_take (i := 1) (v := ?v89) rfl (by kernel_rfl) (by kernel_rfl) (by kernel_rfl) (fun _ _ _ h => h) (Or.inl ⟨by kernel_rfl, ?h89⟩) hHeld ?_
            case h89 => intro u hSw; obtain ⟨⟨q0, q1, q2, q3⟩, ⟨r0, r1, r2, _, _⟩⟩ := hSw; (try dsimp only at q0 q1 q2 q3 r0 r1 r2); go_simp; try with_reducible rfl
            try simp only [List.getElem_toArray]
            try simp only [List.getElem_cons_succ]
            try simp only [List.getElem_cons_zero]
            try simp only [Act.put]
            try simp only [List.setIfInBounds_toArray]
            try simp only [List.set]
            refine wpAnyH_take (i := 2) (v := ?v90) rfl (by kernel_rfl) (by kernel_rfl) (by kernel_rfl) (fun _ _ _ h => h) (Or.inl ⟨by kernel_rfl, ?h90⟩) hHeld ?_
            case h90 => intro u hSw; obtain ⟨⟨q0, q1, q2, q3⟩, ⟨r0, r1, r2, _, _⟩⟩ := hSw; (try dsimp only at q0 q1 q2 q3 r0 r1 r2); go_simp; try with_reducible rfl
            try simp only [List.getElem_toArray]
            try simp only [List.getElem_cons_succ]
            try simp only [List.getElem_cons_zero]
            try simp only [Act.put]
            try simp only [List.setIfInBounds_toArray]
            try simp only [List.set]
            refine wpAnyH_take (i := 3) (v := ?v91) rfl (by kernel_rfl) (by kernel_rfl) (by kernel_rfl) (fun _ _ _ h => h) (Or.inl ⟨by kernel_rfl, ?h91⟩) hHeld ?_
            case h91 => intro u hSw; obtain ⟨⟨q0, q1, q2, q3⟩, ⟨r0, r1, r2, _, _⟩⟩ := hSw; (try dsimp only at q0 q1 q2 q3 r0 r1 r2); go_simp; try with_reducible rfl
            try simp only [List.getElem_toArray]
            try simp only [List.getElem_cons_succ]
            try simp only [List.getElem_cons_zero]
            try simp only [Act.put]
            try simp only [List.setIfInBounds_toArray]
            try simp only [List.set]
            refine wpAnyH_take (i := 4) (v := ?v92) rfl (by kernel_rfl) (by kernel_rfl) (by kernel_rfl) (fun _ _ _ h => h) (Or.inl ⟨by kernel_rfl, ?h92⟩) hHeld ?_
            case h92 => intro u hSw; obtain ⟨⟨q0, q1, q2, q3⟩, ⟨r0, r1, r2, _, _⟩⟩ := hSw; (try dsimp only at q0 q1 q2 q3 r0 r1 r2); go_simp; try with_reducible rfl
            try simp only [List.getElem_toArray]
            try simp only [List.getElem_cons_succ]
            try simp only [List.getElem_cons_zero]
            try simp only [Act.put]
            try simp only [List.setIfInBounds_toArray]
            try simp only [List.set]
            refine wpAnyH_take (i := 5) (v := ?v93) rfl (by kernel_rfl) (by kernel_rfl) (by kernel_rfl) (fun _ _ _ h => h) (Or.inl ⟨by kernel_rfl, ?h93⟩) hHeld ?_
            case h93 => intro u hSw; obtain ⟨⟨q0, q1, q2, q3⟩, ⟨r0, r1, r2, _, _⟩⟩ := hSw; (try dsimp only at q0 q1 q2 q3 r0 r1 r2); go_simp; try with_reducible rfl
            try simp only [List.getElem_toArray]
            try simp only [List.getElem_cons_succ]
            try simp only [List.getElem_cons_zero]
            try simp only [Act.put]
            try simp only [List.setIfInBounds_toArray]
            try simp only [List.set]
            refine wpAnyH_take (i := 6) (v := ?v94) rfl (by kernel_rfl) (by kernel_rfl) (by kernel_rfl) (fun _ _ _ h => h) (Or.inl ⟨by kernel_rfl, ?h94⟩) hHeld ?_
            case h94 => intro u hSw; obtain ⟨⟨q0, q1, q2, q3⟩, ⟨r0, r1, r2, _, _⟩⟩ := hSw; (try dsimp only at q0 q1 q2 q3 r0 r1 r2); go_simp; try with_reducible rfl
            try simp only [List.getElem_toArray]
            try simp only [List.getElem_cons_succ]
            try simp only [List.getElem_cons_zero]
            try simp only [Act.put]
            try simp only [List.setIfInBounds_toArray]
            try simp only [List.set]
            refine wpAnyH_take (i := 7) (v := ?v95) rfl (by kernel_rfl) (by kernel_rfl) (by kernel_rfl) (fun _ _ _ h => h) (Or.inl ⟨by kernel_rfl, ?h95⟩) hHeld ?_
            case h95 => intro u hSw; obtain ⟨⟨q0, q1, q2, q3⟩, ⟨r0, r1, r2, _, _⟩⟩ := hSw; (try dsimp only at q0 q1 q2 q3 r0 r1 r2); go_simp; try with_reducible rfl
            try simp only [List.getElem_toArray]
            try simp only [List.getElem_cons_succ]
            try simp only [List.getElem_cons_zero]
            try simp only [Act.put]
            try simp only [List.setIfInBounds_toArray]
            try simp only [List.set]
            refine wpAnyH_take (i := 8) (v := ?v96) rfl (by kernel_rfl) (by kernel_rfl) (by kernel_rfl) (fun _ _ _ h => h) (Or.inl ⟨by kernel_rfl, ?h96⟩) hHeld ?_
            case h96 => intro u hSw; obtain ⟨⟨q0, q1, q2, q3⟩, ⟨r0, r1, r2, _, _⟩⟩ := hSw; (try dsimp only at q0 q1 q2 q3 r0 r1 r2); go_simp; try with_reducible rfl
            try simp only [List.getElem_toArray]
            try simp only [List.getElem_cons_succ]
            try simp only [List.getElem_cons_zero]
            try simp only [Act.put]
            try simp only [List.setIfInBounds_toArray]
            try simp only [List.set]
            refine wpAnyH_take (i := 10) (v := ?v97) rfl (by kernel_rfl) (by kernel_rfl) (by kernel_rfl) (fun _ _ _ h => h) (Or.inl ⟨by kernel_rfl, ?h97⟩) hHeld ?_
            case h97 => intro u hSw; obtain ⟨⟨q0, q1, q2, q3⟩, ⟨r0, r1, r2, _, _⟩⟩ := hSw; (try dsimp only at q0 q1 q2 q3 r0 r1 r2); go_simp; try with_reducible rfl
            try simp only [List.getElem_toArray]
            try simp only [List.getElem_cons_succ]
            try simp only [List.getElem_cons_zero]
            try simp only [Act.put]
            try simp only [List.setIfInBounds_toArray]
            try simp only [List.set]
            refine wpAnyH_take (i := 11) (v := ?v98) rfl (by kernel_rfl) (by kernel_rfl) (by kernel_rfl) (fun _ _ _ h => h) (Or.inl ⟨by kernel_rfl, ?h98⟩) hHeld ?_
            case h98 => intro u hSw; obtain ⟨⟨q0, q1, q2, q3⟩, ⟨r0, r1, r2, _, _⟩⟩ := hSw; (try dsimp only at q0 q1 q2 q3 r0 r1 r2); go_simp; try with_reducible rfl
            try simp only [List.getElem_toArray]
            try simp only [List.getElem_cons_succ]
            try simp only [List.getElem_cons_zero]
            try simp only [Act.put]
            try simp only [List.setIfInBounds_toArray]
            try simp only [List.set]
            refine wpAnyH_ready (rs := [9]) (by kernel_rfl) (by simp) ?_
            refine AllReadyH.cons rfl (fun K hK => ?_) AllReadyH.nil
            have c4 := c9
            go_simp
            go_wp2_with fail
            refine hK.out _ _ hHeld (fun hHeld => ?_)
            clear hK K c4 c9
            try simp only [Act.put]
            try simp only [List.setIfInBounds_toArray]
            try simp only [List.set]
            refine wpAnyH_ready (rs := [12]) (by kernel_rfl) (by simp) ?_
            refine AllReadyH.cons rfl (fun K hK => ?_) AllReadyH.nil
            have hsD := hS.sz
            have hAf := hS.a
            have hol := hS.o.lt
            go_simp
            go_wp2_with (go_at_call 79; refine (l3ApplyG_any ay old cy a m c P A C Z _ hrd HOl.out HF0.out (HR.out _ (gX.trans (hS.g.mono hwn)))).mono ?_; rintro e w6 ⟨ug, cu, rfl, g6, hge, h6⟩)
            refine hK.out _ _ (⟨hHeld.1.up g6, hHeld.2.below g6⟩) (fun hHeld => ?_)
            clear hK K
            have hfr : ∀ g, (Value.slice (some ⟨ug, 0, none⟩) 64 cu).ownBlock = some g → ¬ blkP (.slice x1 es.length k1) V1 g ∧ ¬ blkP (.slice (some ⟨gp, 0, none⟩) ps.length k2) V2 g ∧ g ≠ ob := fun g e => by
              have h1 : ug = g := by injection e
              exact ⟨fun hh => by have := (hAf.e.lt hh).2; omega, fun hh => by have := (hAf.p.lt hh).2; omega, fun hh => by omega⟩
            have hu : Gb n₀ w6 (.slice (some ⟨ug, 0, none⟩) 64 cu) (apP old P Z m) := h6.gb (Nat.le_trans hsD hge)
            have hS := hS.below g6
            clear g6 hsD hAf hol h6 hge
            try simp only [Act.put]
            try simp only [List.setIfInBounds_toArray]
            try simp only [List.set]
            refine wpAnyH_take (i := 13) (v := ?v99) rfl (by kernel_rfl) (by kernel_rfl) (by kernel_rfl) (fun _ _ _ h => h) (Or.inl ⟨by kernel_rfl, ?h99⟩) hHeld ?_
            case h99 => intro u hSw; skip; go_simp; try with_reducible rfl
            try simp only [List.getElem_toArray]
            try simp only [List.getElem_cons_succ]
            try simp only [List.getElem_cons_zero]
            try simp only [Act.put]
            try simp only [List.setIfInBounds_toArray]
            try simp only [List.set]
            refine wpAnyH_ready (rs := [14]) (by kernel_rfl) (by simp) ?_
            refine AllReadyH.cons rfl (fun K hK => ?_) AllReadyH.nil
            have hN := hS.setPage (i := pn) (by omega) hu hfr
            obtain ⟨y1, hy1⟩ : ∃ y, V2[pn]? = some y := ⟨_, List.getElem?_eq_getElem (by rw [hS.a.p.len]; omega)⟩
            have c8 := hS.a.p.row.cellAt pn (by omega)
            rw [hy1] at c8
            have f8 : w6.frozen? ⟨gp, pn, none⟩ = false := hS.a.p.row.frozenAt _
            have hE9 := hRX.out.at hN.g hrn
            have hO9 := hHeld.2.grown (grownOut w6 gp pn (.slice (some ⟨ug, 0, none⟩) 64 cu)) (fun e => hS.n2 (.inl e))
            clear hS hu hfr hy1
            go_simp
            refine hK.out _ _ ⟨hE9, hO9⟩ (fun hHeld => ?_)
            clear hK K c8 f8 hE9 hO9
            try simp only [Act.put]
            try simp only [List.setIfInBounds_toArray]
            try simp only [List.set]
            refine wpAnyH_done (by kernel_rfl) ?_ _
            clear hHeld
            obtain ⟨rs, hrs⟩ : ∃ rs, ps.set pn (apP old P Z m) = rs := ⟨_, rfl⟩
            rw [hrs] at hN
            have HQr : Hid (ps.set pn (apP old P Z m) = rs) := hrs
            clear hrs
            generalize (V2.set pn (.slice (some ⟨ug, 0, none⟩) 64 cu)) = V3 at hN
            generalize w6.setCell ⟨gp, pn, none⟩ (.slice (some ⟨ug, 0, none⟩) 64 cu) = wZ at hN ⊢
            obtain ⟨o0, o1, o2, of0, of1, of2⟩ := hOX.out.at hN.g hron
            obtain ⟨p0, p1, p2, _, _⟩ := hN.o
            go_wp2_with fail
            refine bodyPost_ret (v := .agg #[.int .i64 0, .slice x1 es.length k1, .slice (some ⟨gp, 0, none⟩) rs.length k2]) (by simp [results, Try.results32, go_sem, *]) rfl ?_
            rw [HX.out.1, HX.out.2, ← HCur.out, HQr.out, ← HEs.out]
            exact ae_end hN gX hwn (turned_set3 _ _ _) hron hrb1
        · have hk0 : inR kd 2 4 = false := by simpa using hk
          have HX : Hid (Q = 0 ∧ L = ps) := by
            have h1 : Q = 0 := by rw [← HQ.out, if_neg hk]
            exact ⟨h1, by rw [← HL.out, h1, if_pos rfl, if_neg hk]⟩
          obtain ⟨o0, o1, o2, of0, of1, of2⟩ := hOX.out.at hS.g hron
          obtain ⟨p0, p1, p2, _, _⟩ := hS.o
          clear HQ HL hk
          go_wp2_with (go_at_call 77; refine (l4Runs_any kd _).mono ?_)
          rintro e wq ⟨rfl, rfl⟩
          go_wp2_with fail
          refine bodyPost_ret (v := .agg #[.int .i64 0, .slice x1 es.length k1, .slice x2 ps.length k2]) (by simp [results, Try.results32, go_sem, *]) rfl ?_
          rw [HX.out.1, HX.out.2, ← HEs.out]
          exact ae_end hS gX hwn (turned_set3 _ _ _) hron hrb1
      · have d0 : (rq != 0) = true := by simpa using hq0
        have HX : Hid (Q = rq ∧ L = []) := by
          have h1 : Q = rq := by rw [← HQ.out, if_neg hq0]
          exact ⟨h1, by rw [← HL.out, h1, if_neg hq0]⟩
        clear HQ HL hRc
        go_wp2_with (go_at_call 75; refine (l7Bad_any rq _).mono ?_)
        rintro e WB ⟨rfl, gb⟩
        obtain ⟨o0, o1, o2, of0, of1, of2⟩ := (hO).at gb (hO).lt
        have gq := (g).trans (gb.mono (g).size)
        clear gb
        go_wp2_with fail
        refine bodyPost_ret (v := .agg #[.int .i64 rq, .slice none 0 0, .slice none 0 0]) (by simp [results, Try.results32, go_sem, *]) rfl ?_
        rw [HX.out.1, HX.out.2]
        exact ar_bad (below_set3 gq hrb1 _ _ _)

end Go.Proofs.Yteebbaleejbodaa
