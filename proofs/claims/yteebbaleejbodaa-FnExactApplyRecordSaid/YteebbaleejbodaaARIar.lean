/-
  The program's ApplyRecord.
-/
import Derived.Test.YteebbaleejbodaaARTrp
import Derived.Test.YteebbaleejbodaaARRed

namespace Go.Proofs.Yteebbaleejbodaa
open Go.RowKit
set_option linter.unusedVariables false
set_option maxRecDepth 20000

/-- Whether all are pages by their length; the code of ApplyRecord, its pages. -/
def lenB (ps : List (List Int)) : Bool := ps.all fun zs => decide (zs.length = 64)
def arC (ps : List (List Int)) (kd tx pg : Int) (m : Nat) (P : Nat → Int) (Z : Nat → List Int) : Int :=
  if 12 < ps.length then 2 else if lenB ps = true then (if recQ kd tx pg m P Z = 0 then (if inR kd 2 4 = true then (if (ps.length : Int) < pg then 1 else 0) else 0) else recQ kd tx pg m P Z) else 1
def arP (ps : List (List Int)) (kd tx pg : Int) (m : Nat) (P : Nat → Int) (Z : Nat → List Int) : List (List Int) :=
  if arC ps kd tx pg m P Z = 0 then (if inR kd 2 4 = true then wpL ps pg.toNat (apP (pgOf ps pg.toNat) P Z m) else ps) else []
theorem rec_runs {kd tx pg : Int} {m : Nat} {P : Nat → Int} {Z : Nat → List Int} (h : recQ kd tx pg m P Z = 0) (hk : inR kd 2 4 = true) : (kd = 2 ∨ kd = 3 ∨ kd = 4) ∧ (0 ≤ pg ∧ pg ≤ 11) ∧ rfQ m P Z = 0 := by
  have hk3 : kd = 2 ∨ kd = 3 ∨ kd = 4 := by
    unfold inR at hk
    simp at hk
    omega
  have hp : ∀ x, or2 (pgQ pg) x = 0 → (0 ≤ pg ∧ pg ≤ 11) ∧ x = 0 := fun x hx => by
    unfold or2 pgQ at hx
    by_cases h2 : inR pg 0 11 = true
    · rw [if_pos h2, if_pos rfl] at hx
      unfold inR at h2
      simp at h2
      exact ⟨h2, hx⟩
    · rw [if_neg h2, if_neg (by decide)] at hx
      cases hx
  refine ⟨hk3, ?_⟩
  unfold recQ at h
  rw [if_neg (by omega)] at h
  by_cases h4 : kd = 4
  · rw [if_neg (by omega), if_pos h4] at h
    split at h
    · cases h
    · unfold imQ at h
      split at h
      · next h1 => exact hp _ h1
      · next h1 => exact absurd h h1
  · rw [if_pos (by omega)] at h
    unfold deQ at h
    split at h
    · next h1 =>
      have h2 : or2 (pgQ pg) (rfQ m P Z) = 0 := by
        unfold or2 at h1
        split at h1
        · unfold or2; exact h1
        · next h3 => exact absurd h1 h3
      exact hp _ h2
    · next h1 => exact absurd h h1
theorem inR_two {kd : Int} : inR kd 2 4 = true ↔ (kd = 2 ∨ kd = 3 ∨ kd = 4) := by
  unfold inR
  simp
  omega

/-- The cells of an answer of edits. -/
structure Rc3 (W : World) (b : Nat) : Prop where
  c0 : W.cell? ⟨b, 0, none⟩ = some (.int .i64 0)
  c1 : W.cell? ⟨b, 1, none⟩ = some (.slice none 0 0)
  c2 : W.cell? ⟨b, 2, none⟩ = some (.slice none 0 0)
  f0 : W.frozen? ⟨b, 0, none⟩ = false
  f1 : W.frozen? ⟨b, 1, none⟩ = false
  f2 : W.frozen? ⟨b, 2, none⟩ = false
theorem Rc3.lt {W : World} {b : Nat} (h : Rc3 W b) : b < W.heap.size := World.block_lt_of_cell? W _ h.c0
theorem Rc3.at {W W' : World} {b B : Nat} (h : Rc3 W b) (hb : Below B W W') (hl : b < B) : Rc3 W' b :=
  ⟨(hb.cell hl).trans h.c0, (hb.cell (p := ⟨b, 1, none⟩) hl).trans h.c1, (hb.cell (p := ⟨b, 2, none⟩) hl).trans h.c2, (hb.frozen (p := ⟨b, 0, none⟩) hl).trans h.f0, (hb.frozen (p := ⟨b, 1, none⟩) hl).trans h.f1, (hb.frozen (p := ⟨b, 2, none⟩) hl).trans h.f2⟩
theorem below_set3 {w W : World} {b : Nat} (g : Below w.heap.size w W) (hb : w.heap.size ≤ b) (u v x : Value) : Below w.heap.size w (((W.setCell ⟨b, 0, none⟩ u).setCell ⟨b, 1, none⟩ v).setCell ⟨b, 2, none⟩ x) :=
  g.trans (Turned.toBelow (lo := b) (hi := b + 1) ((((Turned.refl _ _ W).setCell (p := ⟨b, 0, none⟩) (Nat.le_refl _) (Nat.lt_succ_self _) _).setCell (p := ⟨b, 1, none⟩) (Nat.le_refl _) (Nat.lt_succ_self _) _).setCell (p := ⟨b, 2, none⟩) (Nat.le_refl _) (Nat.lt_succ_self _) _) g.size hb)
theorem turned_set3 {W : World} {b : Nat} (u v x : Value) : Turned b (b + 1) W (((W.setCell ⟨b, 0, none⟩ u).setCell ⟨b, 1, none⟩ v).setCell ⟨b, 2, none⟩ x) :=
  (((Turned.refl _ _ W).setCell (p := ⟨b, 0, none⟩) (Nat.le_refl _) (Nat.lt_succ_self _) _).setCell (p := ⟨b, 1, none⟩) (Nat.le_refl _) (Nat.lt_succ_self _) _).setCell (p := ⟨b, 2, none⟩) (Nat.le_refl _) (Nat.lt_succ_self _) _
theorem ar_bad {q : Int} {w w' : World} (g : Below w.heap.size w w') : AePost q [] [] w (.returned (.agg #[.int .i64 q, .slice none 0 0, .slice none 0 0])) w' := ⟨_, _, _, _, rfl, g, ans_nil _ _⟩
theorem ar_good {n₀ : Nat} {w W W' : World} {b : Nat} {v : Value} {qs : List (List Int)} {V : List Value} (g : Below w.heap.size w W') (hP : PgB n₀ W v qs V) (hS : SepV V) (h0 : w.heap.size ≤ n₀) (ht : Turned b (b + 1) W W') (hb : b < n₀) : AePost 0 [] qs w (.returned (.agg #[.int .i64 0, .slice none 0 0, v])) W' := by
  have hP' : PgB n₀ W' v qs V := hP.kept (row := some b) ⟨ht.os, ht.tape, ht.output, ht.size, fun k hk hne => ht.block k hk (fun e => hne (by rw [show k = b by omega]))⟩ (fun g' hg' e => by injection e with e; have := (hP.lt hg').1; omega)
  exact ⟨_, [], _, V, rfl, g, EdB.nil _ _, hP'.base h0, fun i j u u' g _ h => by simp at h, hS, fun g h => by rcases h with h | ⟨u, hu, _⟩; cases h; simp at hu⟩

set_option maxHeartbeats 8000000 in
theorem implApplyRecord_any (pa : Option Addr) (ps : List (List Int)) (np pc : Nat) (kd tx pg : Int) (a : Option Addr) (m c : Nat) (P : Nat → Int) (A : Nat → Option Addr) (C : Nat → Nat) (Z : Nat → List Int) (w : World) (hnp : ps.length = np) (hmp : np ≤ 1048576) (hpo : PgOk ps) (hrn : PgRdN w pa ps) (hm : m ≤ 1048576) (hz : ∀ i, i < m → (Z i).length ≤ 1048576) (hr : RunsRead w a m P A C Z) :
    Calls Try.prog 34 #[.slice pa np pc, .agg #[.int .i64 kd, .int .i64 tx, .int .i64 pg, .slice a m c]] w fun e w' => AePost (arC ps kd tx pg m P Z) [] (arP ps kd tx pg m P Z) w e w' := by
  have HNp : Hid (ps.length = np) := hnp
  have HPo : Hid (PgOk ps) := hpo
  have HRn : Hid (∀ W, Below w.heap.size w W → PgRdN W pa ps) := fun W hW => hrn.below hW (Nat.le_refl _)
  have HR : Hid (∀ W, Below w.heap.size w W → RunsRead W a m P A C Z) := fun W hW => hr.below hW (Nat.le_refl _)
  have HZ : Hid (∀ i, i < m → (Z i).length ≤ 1048576) := hz
  obtain ⟨Q, hQ⟩ : ∃ Q, arC ps kd tx pg m P Z = Q := ⟨_, rfl⟩
  obtain ⟨L, hL⟩ : ∃ L, arP ps kd tx pg m P Z = L := ⟨_, rfl⟩
  have HL : Hid ((if Q = 0 then (if inR kd 2 4 = true then wpL ps pg.toNat (apP (pgOf ps pg.toNat) P Z m) else ps) else []) = L) := by show _ = _; rw [← hL, ← hQ]; rfl
  have HQ : Hid ((if 12 < ps.length then 2 else if lenB ps = true then (if recQ kd tx pg m P Z = 0 then (if inR kd 2 4 = true then (if (ps.length : Int) < pg then 1 else 0) else 0) else recQ kd tx pg m P Z) else 1) = Q) := hQ
  rw [hQ, hL]
  have HRf : Hid (∀ W, Below w.heap.size w W → Calls Try.prog 81 #[.agg #[.int .i64 kd, .int .i64 tx, .int .i64 pg, .slice a m c]] W fun e w' => e = .returned (.int .i64 (recQ kd tx pg m P Z)) ∧ Below W.heap.size W w') := fun W hW => implRecordFault_any kd tx pg a m c P A C Z W hm hz (HR.out W hW)
  obtain ⟨rq, hrq⟩ : ∃ rq, recQ kd tx pg m P Z = rq := ⟨_, rfl⟩
  have HRq : Hid (recQ kd tx pg m P Z = rq) := hrq
  rw [hrq] at HRf HQ
  clear hnp hpo hrn hr hz hQ hL hrq
  go_enter Try.func34, Try.ntmps34
  go_upto_region 1 with (fail)
  generalize hX : World.alloc _ _ = X
  have gX : Below w.heap.size w X := by rw [← hX]; go_grown
  have hRc : RcAt X w.heap.size kd tx pg a m c := by rw [← hX]; exact ⟨by simp [go_sem], by simp [go_sem], by simp [go_sem], by simp [go_sem]⟩
  have hO : Rc3 X (w.heap.size + 1) := by rw [← hX]; exact ⟨by simp [go_sem], by simp [go_sem], by simp [go_sem], by simp [go_sem], by simp [go_sem], by simp [go_sem]⟩
  clear hX
  obtain ⟨rb, hrb⟩ : ∃ rb, w.heap.size = rb := ⟨_, rfl⟩
  have hrb1 : w.heap.size ≤ rb + 1 := by omega
  rw [hrb] at hRc hO
  simp only [hrb]
  clear hrb
  by_cases h12 : (12 : Int) < (np : Int)
  · have HX : Hid (Q = 2 ∧ L = []) := by
      have h1 : Q = 2 := by rw [← HQ.out, if_pos (by rw [HNp.out]; omega)]
      exact ⟨h1, by rw [← HL.out, h1]; rfl⟩
    have d12 : decide ((12 : Int) < np) = true := by simpa using h12
    obtain ⟨o0, o1, o2, of0, of1, of2⟩ := hO
    clear HQ HL hRc
    go_wp2_with fail
    refine bodyPost_ret (v := .agg #[.int .i64 2, .slice none 0 0, .slice none 0 0]) (by simp [results, Try.results34, go_sem, *]) rfl ?_
    rw [HX.out.1, HX.out.2]
    exact ar_bad (below_set3 gX hrb1 _ _ _)
  have d12 : decide ((12 : Int) < np) = false := by simpa using h12
  have hn12 : np ≤ 12 := by omega
  have HQ : Hid ((if lenB ps = true then (if rq = 0 then (if inR kd 2 4 = true then (if (np : Int) < pg then 1 else 0) else 0) else rq) else 1) = Q) := by
    have h := HQ.out
    rw [if_neg (by rw [HNp.out]; omega), HNp.out] at h
    exact h
  clear h12
  go_upto_region 4 with (fail)
  go_loopw [16] (fun i wr => ∃ j : Nat, j ≤ np ∧ i = .int .i64 j ∧ Hid (∀ zs ∈ ps.take j, zs.length = 64) ∧ Below w.heap.size w wr ∧ RcAt wr rb kd tx pg a m c ∧ Rc3 wr (rb + 1)) (fun i _ => np - (intOf i).toNat)
  case atStart => exact ⟨0, Nat.zero_le _, rfl, by intro y hy; simp at hy, gX, hRc, hO⟩
  case round =>
    clear gX hRc hO
    obtain ⟨j, hj, rfl, hA, g, hRc, hO⟩ := hrel
    by_cases hlt : j < np
    · obtain ⟨zs, hzs⟩ : ∃ zs, ps[j]? = some zs := ⟨_, List.getElem?_eq_getElem (by rw [HNp.out]; exact hlt)⟩
      obtain ⟨b, off, x, cx, rfl, x0, _, _⟩ := (HRn.out _ g).page hzs
      have hjn : (j : Int) < (np : Int) := by omega
      have HZs : Hid (ps[j]? = some zs) := hzs
      clear hzs
      obtain ⟨zl, hzl⟩ : ∃ zl, zs.length = zl := ⟨_, rfl⟩
      have HZl : Hid (zs.length = zl) := hzl
      rw [hzl] at x0
      clear hzl
      by_cases h64 : zl = 64
      · have d : ((zl : Int) != 64) = false := by simp; omega
        have HA2 : Hid (∀ ys ∈ ps.take (j + 1), ys.length = 64) := by
          intro ys hys
          rw [take_snoc HZs.out] at hys
          rcases List.mem_append.1 hys with hys | hys
          · exact hA.out ys hys
          · simp only [List.mem_singleton] at hys; rw [hys, HZl.out]; exact h64
        clear h64
        go_wp2_with fail
        go_roundw
        case rel => exact ⟨j + 1, by omega, by go_num, HA2, g, hRc, hO⟩
        case measure => simp [intOf]; omega
      · have d : ((zl : Int) != 64) = true := by simp; omega
        have HX : Hid (Q = 1 ∧ L = []) := by
          have hb : lenB ps = false := by
            unfold lenB
            rw [List.all_eq_false]
            exact ⟨zs, List.mem_of_getElem? HZs.out, by rw [HZl.out]; simpa using h64⟩
          have h1 : Q = 1 := by rw [← HQ.out, hb]; rfl
          exact ⟨h1, by rw [← HL.out, h1]; rfl⟩
        obtain ⟨o0, o1, o2, of0, of1, of2⟩ := hO
        clear HQ HL hRc h64 hA
        go_wp2_with fail
        refine bodyPost_ret (v := .agg #[.int .i64 1, .slice none 0 0, .slice none 0 0]) (by simp [results, Try.results34, go_sem, *]) rfl ?_
        rw [HX.out.1, HX.out.2]
        exact ar_bad (below_set3 g hrb1 _ _ _)
    · have hall : ∀ zs ∈ ps, zs.length = 64 := by
        have h2 := hA.out
        rw [List.take_of_length_le (by rw [HNp.out]; omega)] at h2
        exact h2
      have HAll : Hid (∀ zs ∈ ps, zs.length = 64) := hall
      have hb : lenB ps = true := by
        unfold lenB
        rw [List.all_eq_true]
        intro zs h
        simpa using hall zs h
      have HQ : Hid ((if rq = 0 then (if inR kd 2 4 = true then (if (np : Int) < pg then 1 else 0) else 0) else rq) = Q) := by show _ = _; rw [← HQ.out, if_pos hb]
      have hjn : ¬ (j : Int) < (np : Int) := by omega
      clear hall hb hA
      have hrf := HRf.out wr g
      obtain ⟨r0, r1, r2, r3⟩ := hRc
      go_wp2_with fail
      refine hrf.mono ?_
      rintro e W1 ⟨rfl, g1⟩
      have hRc : RcAt W1 rb kd tx pg a m c := RcAt.up (V := wr) ⟨r0, r1, r2, r3⟩ g1
      have hO := hO.at g1 hO.lt
      have g := g.trans (g1.mono g.size)
      clear hrf g1 r0 r1 r2 r3
      by_cases hq0 : rq = 0
      · have d0 : (rq != 0) = false := by simpa using hq0
        have HQ : Hid ((if inR kd 2 4 = true then (if (np : Int) < pg then 1 else 0) else 0) = Q) := by show _ = _; rw [← HQ.out, if_pos hq0]
        have hop := ownPages_any pa ps np pc W1 HNp.out (by omega) HPo.out (HRn.out W1 g)
        obtain ⟨r0, r1, r2, r3⟩ := hRc
        go_wp2_with (go_at_call 69; refine hop.mono ?_)
        rintro e W2 ⟨v, V, rfl, g2, hP, hS⟩
        obtain ⟨va, vc, rfl⟩ : ∃ va vc, v = .slice va ps.length vc := by
          obtain ⟨va, vc, e, _⟩ := hP.own hS
          exact ⟨va, vc, e⟩
        have hRc : RcAt W2 rb kd tx pg a m c := RcAt.up (V := W1) ⟨r0, r1, r2, r3⟩ g2
        have hol : rb + 1 < W1.heap.size := hO.lt
        have hO := hO.at g2 hol
        have hw1 := g.size
        have g := g.trans (g2.mono g.size)
        have hb2 := g2.size
        rw [HNp.out] at hP ⊢
        clear hop g2 r0 r1 r2 r3
        by_cases hk : inR kd 2 4 = true
        · obtain ⟨hk3, hpg, hrf0⟩ := rec_runs (HRq.out.trans hq0) hk
          have HQ : Hid ((if (np : Int) < pg then 1 else 0) = Q) := by show _ = _; rw [← HQ.out, if_pos hk]
          obtain ⟨pn, hpn⟩ : ∃ pn : Nat, pg = (pn : Int) := ⟨pg.toNat, by omega⟩
          subst hpn
          have htp := turnPage_any W1.heap.size va np vc ps V pn a m c P A C Z W2 HNp.out hn12 (by omega) HAll.out hP hS hb2 hm HZ.out (HR.out W2 g) hrf0
          have HL : Hid ((if Q = 0 then wpL ps pn (apP (pgOf ps pn) P Z m) else []) = L) := by show _ = _; rw [← HL.out, if_pos hk, Int.toNat_natCast]
          have htr : ∃ y, kd = y ∧ (y = 2 ∨ y = 3 ∨ y = 4) := ⟨kd, rfl, hk3⟩
          clear hk hk3 hpg hrf0 hP hS HRq HRf HR HAll HRn HPo HZ
          obtain ⟨r0, r1, r2, r3⟩ := hRc
          obtain ⟨y, hy, hk3⟩ := htr
          rw [hy] at r0
          clear hy
          rcases hk3 with rfl | rfl | rfl
          all_goals
            go_wp2_with (go_at_call 82; refine htp.mono ?_)
            rintro e W3 hT
            by_cases hgt : np < pn
            · obtain ⟨rfl, g3⟩ := hT.1 (by rw [HNp.out]; exact hgt)
              have HX : Hid (Q = 1 ∧ L = []) := by
                have h1 : Q = 1 := by rw [← HQ.out, if_pos (by omega)]
                exact ⟨h1, by rw [← HL.out, h1]; rfl⟩
              obtain ⟨o0, o1, o2, of0, of1, of2⟩ := hO.at g3 hol
              have g := g.trans (g3.mono hw1)
              clear HQ HL hT htp hO r0 r1 r2 r3 g3
              go_wp2_with fail
              refine bodyPost_ret (v := .agg #[.int .i64 1, .slice none 0 0, .slice none 0 0]) (by simp [results, Try.results34, go_sem, *]) rfl ?_
              rw [HX.out.1, HX.out.2]
              exact ar_bad (below_set3 g hrb1 _ _ _)
            · obtain ⟨v', V', rfl, g3, hP3, hS3⟩ := hT.2 (by rw [HNp.out]; omega)
              obtain ⟨va', na', vc', rfl⟩ : ∃ va na vc, v' = .slice va na vc := by
                obtain ⟨va, vc, e, _⟩ := hP3.own hS3
                exact ⟨va, _, vc, e⟩
              have HX : Hid (Q = 0 ∧ L = wpL ps pn (apP (pgOf ps pn) P Z m)) := by
                have h1 : Q = 0 := by rw [← HQ.out, if_neg (by omega)]
                exact ⟨h1, by rw [← HL.out, h1]; rfl⟩
              obtain ⟨o0, o1, o2, of0, of1, of2⟩ := hO.at g3 hol
              have g := g.trans (g3.mono hw1)
              clear HQ HL hT htp hO r0 r1 r2 r3 g3
              go_wp2_with fail
              refine bodyPost_ret (v := .agg #[.int .i64 0, .slice none 0 0, .slice va' na' vc']) (by simp [results, Try.results34, go_sem, *]) rfl ?_
              rw [HX.out.1, HX.out.2]
              exact ar_good (below_set3 g hrb1 _ _ _) hP3 hS3 hw1 (turned_set3 _ _ _) hol
        · have hk3 : ¬ (kd = 2 ∨ kd = 3 ∨ kd = 4) := fun h => hk (inR_two.2 h)
          have d2 : (kd == 2) = false := by simp; omega
          have d3 : (kd == 3) = false := by simp; omega
          have d4 : (kd == 4) = false := by simp; omega
          have HX : Hid (Q = 0 ∧ L = ps) := by
            have h1 : Q = 0 := by rw [← HQ.out, if_neg hk]
            exact ⟨h1, by rw [← HL.out, h1, if_pos rfl, if_neg hk]⟩
          obtain ⟨r0, r1, r2, r3⟩ := hRc
          obtain ⟨o0, o1, o2, of0, of1, of2⟩ := hO
          clear HQ HL hk hk3
          go_wp2_with fail
          refine bodyPost_ret (v := .agg #[.int .i64 0, .slice none 0 0, .slice va np vc]) (by simp [results, Try.results34, go_sem, *]) rfl ?_
          rw [HX.out.1, HX.out.2]
          exact ar_good (below_set3 g hrb1 _ _ _) hP hS hw1 (turned_set3 _ _ _) hol
      · have d0 : (rq != 0) = true := by simpa using hq0
        have HX : Hid (Q = rq ∧ L = []) := by
          have h1 : Q = rq := by rw [← HQ.out, if_neg hq0]
          exact ⟨h1, by rw [← HL.out, h1, if_neg hq0]⟩
        obtain ⟨o0, o1, o2, of0, of1, of2⟩ := hO
        clear HQ HL hRc
        go_wp2_with fail
        refine bodyPost_ret (v := .agg #[.int .i64 rq, .slice none 0 0, .slice none 0 0]) (by simp [results, Try.results34, go_sem, *]) rfl ?_
        rw [HX.out.1, HX.out.2]
        exact ar_bad (below_set3 g hrb1 _ _ _)

end Go.Proofs.Yteebbaleejbodaa
