/-
  The model's InverseOf; the program's.
-/
import Derived.Test.YthhkgpflodeleaaFCInv
import Derived.Test.YthhkgpflodeleaaFCFci

namespace Go.Proofs.Ythhkgpflodeleaa
open Go.RowKit Go.Maps
set_option linter.unusedVariables false
set_option maxRecDepth 20000

/-- What InverseOf hands back. -/
def IvPost (q : Int) (L : List Chg) (w : World) (e : Ending) (w' : World) : Prop :=
  ∃ a c, e = .returned (.agg #[.int .i64 q, .slice a L.length c]) ∧ Below w.heap.size w w' ∧ SlIn chE 10 w.heap.size w'.heap.size w' a L
theorem iv_bad {q : Int} {w w' : World} (g : Below w.heap.size w w') : IvPost q [] w (.returned (.agg #[.int .i64 q, .slice none 0 0])) w' := ⟨_, _, rfl, g, .inl rfl⟩
structure Rc2 (W : World) (b : Nat) : Prop where
  c0 : W.cell? ⟨b, 0, none⟩ = some (.int .i64 0)
  c1 : W.cell? ⟨b, 1, none⟩ = some (.slice none 0 0)
  f0 : W.frozen? ⟨b, 0, none⟩ = false
  f1 : W.frozen? ⟨b, 1, none⟩ = false
theorem Rc2.lt {W : World} {b : Nat} (h : Rc2 W b) : b < W.heap.size := World.block_lt_of_cell? W _ h.c0
theorem Rc2.below {W W' : World} {b : Nat} (h : Rc2 W b) (hb : Below W.heap.size W W') : Rc2 W' b :=
  ⟨(hb.cell h.lt).trans h.c0, (hb.cell (p := ⟨b, 1, none⟩) h.lt).trans h.c1, (hb.frozen (p := ⟨b, 0, none⟩) h.lt).trans h.f0, (hb.frozen (p := ⟨b, 1, none⟩) h.lt).trans h.f1⟩
theorem below_set2 {w W : World} {b : Nat} (g : Below w.heap.size w W) (hb : w.heap.size ≤ b) (u v : Value) : Below w.heap.size w ((W.setCell ⟨b, 0, none⟩ u).setCell ⟨b, 1, none⟩ v) :=
  g.trans (Turned.toBelow (lo := b) (hi := b + 1) (((Turned.refl _ _ W).setCell (p := ⟨b, 0, none⟩) (Nat.le_refl _) (Nat.lt_succ_self _) _).setCell (p := ⟨b, 1, none⟩) (Nat.le_refl _) (Nat.lt_succ_self _) _) g.size hb)
theorem turned_set2 {W : World} {b : Nat} (u v : Value) : Turned b (b + 1) W ((W.setCell ⟨b, 0, none⟩ u).setCell ⟨b, 1, none⟩ v) :=
  ((Turned.refl _ _ W).setCell (p := ⟨b, 0, none⟩) (Nat.le_refl _) (Nat.lt_succ_self _) _).setCell (p := ⟨b, 1, none⟩) (Nat.le_refl _) (Nat.lt_succ_self _) _
theorem own_lit0 (w : World) (e size : Nat) : (w.alloc (.cells #[] e)).ownsRow w.heap.size e size (.slice (some ⟨w.heap.size, 0, none⟩) 0 0) 0 [] := by
  refine ⟨by simp, .inr ⟨w.heap.size, 0, #[], rfl, Nat.le_refl _, heap_alloc_new w _, Nat.le_refl _, by unfold maxLen; omega, by simp, by simp⟩⟩
/-- The last changes, taken back, the last one first. -/
def bkL (cs : List Chg) (j : Nat) : List Chg := ((cs.drop j).map inv).reverse
theorem bkL_end (cs : List Chg) : bkL cs cs.length = [] := by simp [bkL]
theorem bkL_zero (cs : List Chg) : bkL cs 0 = (cs.map inv).reverse := by simp [bkL]
theorem bkL_step {cs : List Chg} {j : Nat} {x : Chg} (h : cs[j]? = some x) : bkL cs j = bkL cs (j + 1) ++ [inv x] := by
  obtain ⟨h1, h2⟩ := List.getElem?_eq_some_iff.1 h
  unfold bkL
  rw [List.drop_eq_getElem_cons h1, h2]
  simp
theorem bkL_len (cs : List Chg) (j : Nat) : (bkL cs j).length = cs.length - j := by simp [bkL]

/-- The first changes, taken back. -/
def fwL (cs : List Chg) (j : Nat) : List Chg := (cs.take j).map inv
theorem fwL_step {cs : List Chg} {j : Nat} {x : Chg} (h : cs[j]? = some x) : fwL cs (j + 1) = fwL cs j ++ [inv x] := by
  unfold fwL
  rw [take_snoc h]
  simp
theorem fwL_len (cs : List Chg) (j : Nat) : (fwL cs j).length ≤ j := by simp [fwL]; omega
theorem fwL_all (cs : List Chg) : fwL cs cs.length = cs.map inv := by simp [fwL]

set_option maxHeartbeats 8000000 in
theorem implInverseOf_any (a : Option Addr) (cs : List Chg) (n c : Nat) (w : World) (hn : cs.length = n) (hm : n ≤ 9223372036854775807) (hs : ∀ x ∈ cs, x.b.s.size ≤ 1048576 ∧ x.a.s.size ≤ 1048576) (hr : Rs chE 10 w a cs) :
    Calls Try.prog 9 #[.slice a n c] w fun e w' => IvPost (ivQ cs) (ivL cs) w e w' := by
  have HN : Hid (cs.length = n) := hn
  have HS : Hid (∀ x ∈ cs, x.b.s.size ≤ 1048576 ∧ x.a.s.size ≤ 1048576) := hs
  have HR : Hid (Rs chE 10 w a cs) := hr
  obtain ⟨Q, hQ⟩ : ∃ Q, ivQ cs = Q := ⟨_, rfl⟩
  obtain ⟨L, hL⟩ : ∃ L, ivL cs = L := ⟨_, rfl⟩
  have HQ : Hid (ivQ cs = Q) := hQ
  have HL : Hid ((if Q = 0 then (cs.map inv).reverse else []) = L) := by show _ = _; rw [← hL, ← hQ]; rfl
  rw [hQ, hL]
  clear hn hs hr hQ hL
  go_enter Try.func9, Try.ntmps9
  go_upto_region 1 with (fail)
  generalize hX : World.alloc _ _ = X
  have gX : Below w.heap.size w X := by rw [← hX]; go_grown
  have hO : Rc2 X w.heap.size := by rw [← hX]; exact ⟨by simp [go_sem], by simp [go_sem], by simp [go_sem], by simp [go_sem]⟩
  have hXs : w.heap.size + 1 ≤ X.heap.size := by rw [← hX]; simp
  clear hX
  obtain ⟨ob, hob⟩ : ∃ ob, w.heap.size = ob := ⟨_, rfl⟩
  have hob1 : w.heap.size ≤ ob := by omega
  have hob2 : ob < w.heap.size + 1 := by omega
  rw [hob] at hO
  simp only [hob]
  clear hob
  by_cases h60 : 60 < n
  · have d : (60 : Int) < (n : Int) := by omega
    have HX : Hid (Q = 2 ∧ L = []) := by
      have h1 : Q = 2 := by rw [← HQ.out]; unfold ivQ; rw [if_pos (by rw [HN.out]; exact h60)]
      exact ⟨h1, by rw [← HL.out, h1]; rfl⟩
    obtain ⟨o0, o1, of0, of1⟩ := hO
    go_wp2_with fail
    refine bodyPost_ret (v := .agg #[.int .i64 2, .slice none 0 0]) (by simp [results, Try.results9, go_sem, *]) rfl ?_
    rw [HX.out.1, HX.out.2]
    exact iv_bad (below_set2 gX hob1 _ _)
  have d : ¬ (60 : Int) < (n : Int) := by omega
  have HQ : Hid (alF cs = Q) := by
    have h := HQ.out
    unfold ivQ at h
    rw [if_neg (by rw [HN.out]; exact h60)] at h
    exact h
  have hn60 : n ≤ 60 := by omega
  clear h60
  have ho0 : X.ownsRow (w.heap.size + 1) 51 10 (.slice none 0 0) (fwL cs 0).length (flat chE (fwL cs 0)) := by
    rw [show fwL cs 0 = [] by simp [fwL]]
    exact ownsRow_nil _ _ _ _
  go_upto_region 5 with (fail)
  go_loopw [13, 3] (fun i v wr => ∃ j : Nat, j ≤ n ∧ i = .int .i64 j ∧ Hid (∀ y ∈ cs.take j, alQ y = 0) ∧ Below w.heap.size w wr ∧ w.heap.size + 1 ≤ wr.heap.size ∧ Rc2 wr ob ∧ wr.ownsRow (w.heap.size + 1) 51 10 v (fwL cs j).length (flat chE (fwL cs j))) (fun i _ _ => n - (intOf i).toNat)
  case atStart => exact ⟨0, Nat.zero_le _, rfl, by intro y hy; simp at hy, gX, hXs, hO, ho0⟩
  case round =>
    clear gX hO ho0 hXs
    obtain ⟨j, hj, rfl, hA, g, hws, hO, ho⟩ := hrel
    by_cases hlt : j < n
    · obtain ⟨x, hx⟩ : ∃ x, cs[j]? = some x := ⟨_, List.getElem?_eq_getElem (by rw [HN.out]; exact hlt)⟩
      obtain ⟨b, off, rfl⟩ : ∃ b off, a = some ⟨b, off, none⟩ := by
        obtain ⟨b, off, e, _⟩ := HR.out.chg hx
        exact ⟨b, off, e⟩
      have E : ChC wr b (off + j * 10) x := by
        have h1 := HR.out.chgAt hx
        exact h1.below g h1.lt
      have hjn : (j : Int) < (n : Int) := by omega
      obtain ⟨hxb, hxa⟩ := HS.out x (List.mem_of_getElem? hx)
      have HAt : Hid (∀ q, alQ x = q → q ≠ 0 → Q = q) := fun q h1 h2 => by rw [← HQ.out, ← h1]; exact alF_at hA.out hx (by rw [h1]; exact h2)
      have HA2 : Hid (alQ x = 0 → ∀ y ∈ cs.take (j + 1), alQ y = 0) := fun h0 y hy => by
        rw [take_snoc hx] at hy
        rcases List.mem_append.1 hy with hy | hy
        · exact hA.out y hy
        · rw [List.mem_singleton.1 hy]; exact h0
      have HF : Hid (fwL cs (j + 1) = fwL cs j ++ [inv x]) := fwL_step hx
      have hol : (fwL cs j).length ≤ 60 := by have := fwL_len cs j; omega
      clear hx hA
      generalize fwL cs j = o at ho HF hol
      obtain ⟨qq, hqq⟩ : ∃ qq, alQ x = qq := ⟨_, rfl⟩
      have HQQ : Hid (alQ x = qq) := hqq
      obtain ⟨x0, ⟨xt, xk, xv, xst⟩, x5, ⟨yt, yk, yv, yst⟩⟩ := x
      have hml : ∀ {k : Nat}, k ≤ 1048576 → k ≤ maxLen := fun {k} h => by unfold maxLen; omega
      have hal := fun W => aloneFault_any x0 xt xk xv xst x5 yt yk yv yst W (hml hxb) (hml hxa)
      rw [hqq] at hal
      clear hqq
      obtain ⟨e0, e1, e2, e3, e4, e5, e6, e7, e8, e9⟩ := E
      dsimp only at e0 e1 e2 e3 e4 e5 e6 e7 e8 e9 hxb hxa
      go_upto_region 7 with (fail)
      generalize hY : World.alloc _ _ = Y7
      have gY : Below wr.heap.size wr Y7 := by rw [← hY]; go_grown
      have Z : ChC Y7 wr.heap.size 0 (⟨x0, ⟨xt, xk, xv, xst⟩, x5, ⟨yt, yk, yv, yst⟩⟩ : Chg) := by rw [← hY]; exact ⟨by simp [go_sem], by simp [go_sem], by simp [go_sem], by simp [go_sem], by simp [go_sem], by simp [go_sem], by simp [go_sem], by simp [go_sem], by simp [go_sem], by simp [go_sem]⟩
      have hlZ := Z.lt
      have ho := ownsRow_below ho gY
      have hO := hO.below gY
      have hws := Nat.le_trans hws gY.size
      have g := g.trans (gY.mono g.size)
      clear hY e0 e1 e2 e3 e4 e5 e6 e7 e8 e9 gY
      generalize wr.heap.size = xb at Z hlZ ⊢
      obtain ⟨z0, z1, z2, z3, z4, z5, z6, z7, z8, z9⟩ := Z
      dsimp only at z0 z1 z2 z3 z4 z5 z6 z7 z8 z9
      go_wp2_with fail
      refine (hal _).mono ?_
      rintro e W1 ⟨rfl, g1⟩
      have Z : ChC W1 xb 0 (⟨x0, ⟨xt, xk, xv, xst⟩, x5, ⟨yt, yk, yv, yst⟩⟩ : Chg) := ChC.below (w := Y7) ⟨z0, z1, z2, z3, z4, z5, z6, z7, z8, z9⟩ g1 hlZ
      have ho := ownsRow_below ho g1
      have hO := hO.below g1
      have hws := Nat.le_trans hws g1.size
      have g := g.trans (g1.mono g.size)
      clear z0 z1 z2 z3 z4 z5 z6 z7 z8 z9 g1 hlZ hal
      by_cases h0 : qq = 0
      · subst h0
        have HA3 : Hid (∀ y ∈ cs.take (j + 1), alQ y = 0) := HA2.out HQQ.out
        clear HA2 HQQ HAt
        obtain ⟨z0, z1, z2, z3, z4, z5, z6, z7, z8, z9⟩ := Z
        dsimp only at z0 z1 z2 z3 z4 z5 z6 z7 z8 z9
        go_wp2_with fail
        refine (inverseOf_any x0 xt xk xv xst x5 yt yk yv yst _).mono ?_
        rintro e W2 ⟨rfl, g2⟩
        have ho := ownsRow_below ho g2
        have hO := hO.below g2
        have hws := Nat.le_trans hws g2.size
        have g := g.trans (g2.mono g.size)
        clear z0 z1 z2 z3 z4 z5 z6 z7 z8 z9 g2
        go_wp2_with fail
        refine (ownChange_any x5 yt yk yv yst x0 xt xk xv xst _ hxa hxb).mono ?_
        rintro e W3 ⟨rfl, g3⟩
        have ho := ownsRow_below ho g3
        have hO := hO.below g3
        have hws := Nat.le_trans hws g3.size
        have g := g.trans (g3.mono g.size)
        clear g3
        go_wp2_with (at_builtin; refine wpList_append_sl elC _ rfl _ _ rfl (w.heap.size + 1) _ o [(⟨x5, ⟨yt, yk, yv, yst⟩, x0, ⟨xt, xk, xv, xst⟩⟩ : Chg)] (some ⟨W3.heap.size, 0, none⟩) 1 1 rfl rfl rfl (ownsRow_below ho (by go_grown)) (rs_one (enc := chE) W3 (⟨x5, ⟨yt, yk, yv, yst⟩, x0, ⟨xt, xk, xv, xst⟩⟩ : Chg) 51) (show o.length + 1 ≤ 100000000 by omega) (by simp; omega) ?_)
        intro v' w' ho' hg' hob
        have gAl : Below W3.heap.size W3 (W3.alloc (.cells (chE (⟨x5, ⟨yt, yk, yv, yst⟩, x0, ⟨xt, xk, xv, xst⟩⟩ : Chg)).toArray 51)) := by go_grown
        have gw : Below (w.heap.size + 1) W3 w' := Below.grown ((Below.refl _ W3).trans (gAl.mono hws)) hg' (by have := gAl.size; omega) (fun k e => by have := (ho.lt k e).1; omega)
        have hO : Rc2 w' ob := ⟨(gw.cell (p := ⟨ob, 0, none⟩) hob2).trans hO.c0, (gw.cell (p := ⟨ob, 1, none⟩) hob2).trans hO.c1, (gw.frozen (p := ⟨ob, 0, none⟩) hob2).trans hO.f0, (gw.frozen (p := ⟨ob, 1, none⟩) hob2).trans hO.f1⟩
        have g' : Below w.heap.size w w' := g.trans (gw.mono (by omega))
        have hws := Nat.le_trans hws gw.size
        have HO : Hid (w'.ownsRow (w.heap.size + 1) 51 10 v' (fwL cs (j + 1)).length (flat chE (fwL cs (j + 1)))) := by
          rw [HF.out]
          show World.ownsRow _ _ _ _ _ _ _
          rw [List.length_append]; exact ho'
        clear ho ho' hg' hob gAl g gw
        go_wp2_with fail
        go_roundw
        case rel => exact ⟨j + 1, by omega, by go_num, HA3, g', hws, hO, HO.out⟩
        case measure => simp [intOf]; omega
      · have d0 : (qq != 0) = true := by simpa using h0
        have HX : Hid (Q = qq ∧ L = []) := by
          have h1 : Q = qq := HAt.out qq HQQ.out h0
          exact ⟨h1, by rw [← HL.out, if_neg (by rw [h1]; exact h0)]⟩
        clear HA2 HQQ HAt h0 Z ho
        obtain ⟨o0, o1, of0, of1⟩ := hO
        go_wp2_with fail
        refine bodyPost_ret (v := .agg #[.int .i64 qq, .slice none 0 0]) (by simp [results, Try.results9, go_sem, *]) rfl ?_
        rw [HX.out.1, HX.out.2]
        exact iv_bad (below_set2 g hob1 _ _)
    · have e : j = n := by omega
      subst e
      have hjn : ¬ (j : Int) < (j : Int) := by omega
      have hfl : fwL cs j = cs.map inv := by rw [← HN.out]; exact fwL_all cs
      have HX : Hid (Q = 0 ∧ L = (cs.map inv).reverse) := by
        have h1 : Q = 0 := by rw [← HQ.out]; exact alF_all (fun y hy => hA.out y (by rw [List.take_of_length_le (by rw [HN.out]; exact Nat.le_refl _)]; exact hy))
        exact ⟨h1, by rw [← HL.out, if_pos h1]⟩
      rw [hfl] at ho
      have hml : (cs.map inv).length = j := by rw [List.length_map]; exact HN.out
      obtain ⟨a1, c1, rfl, _, hi, _⟩ := SlIn.ofRow chE_len ho
      rw [hml]
      clear hA ho hfl
      generalize cs.map inv = M at HX hml hi
      have hrv : Calls Try.prog 29 #[.slice a1 j c1] wr fun e w' => e = .returned (.tuple #[]) ∧ Turned (w.heap.size + 1) wr.heap.size wr w' ∧ SlIn chE 10 (w.heap.size + 1) wr.heap.size w' a1 M.reverse := by
        by_cases hj0 : j = 0
        · subst hj0
          obtain rfl : M = [] := List.length_eq_zero_iff.1 hml
          refine (reverse_nil a1 c1 wr).mono ?_
          rintro e w' ⟨rfl, rfl⟩
          exact ⟨rfl, Turned.refl _ _ _, .inl rfl⟩
        · obtain ⟨b, off, rfl⟩ : ∃ b off, a1 = some ⟨b, off, none⟩ := by
            rcases hi with rfl | ⟨b, off, e, _⟩
            · simp at hml; omega
            · exact ⟨b, off, e⟩
          exact reverse_any b off _ _ M j c1 wr hml (by omega) (by omega) hi
      have HM : Hid (M.length = j) := hml
      clear hi hml
      go_wp2_with fail
      refine hrv.mono ?_
      rintro e w1 ⟨rfl, t1, hi⟩
      have gt : Below (w.heap.size + 1) wr w1 := t1.toBelow hws (Nat.le_refl _)
      have hO : Rc2 w1 ob := ⟨(gt.cell (p := ⟨ob, 0, none⟩) hob2).trans hO.c0, (gt.cell (p := ⟨ob, 1, none⟩) hob2).trans hO.c1, (gt.frozen (p := ⟨ob, 0, none⟩) hob2).trans hO.f0, (gt.frozen (p := ⟨ob, 1, none⟩) hob2).trans hO.f1⟩
      have g := g.trans (gt.mono (by omega))
      have hsz := gt.size
      have HI : Hid (SlIn chE 10 (w.heap.size + 1) wr.heap.size w1 a1 M.reverse) := hi
      clear hrv t1 gt hi
      obtain ⟨o0, o1, of0, of1⟩ := hO
      go_wp2_with fail
      refine bodyPost_ret (v := .agg #[.int .i64 0, .slice a1 j c1]) (by simp [results, Try.results9, go_sem, *]) rfl ?_
      rw [HX.out.1, HX.out.2]
      exact ⟨a1, c1, by rw [List.length_reverse, HM.out], below_set2 g hob1 _ _, (HI.out.turned (turned_set2 _ _) (.inr (by omega))).mono (by omega) (by simp; omega)⟩

end Go.Proofs.Ythhkgpflodeleaa
