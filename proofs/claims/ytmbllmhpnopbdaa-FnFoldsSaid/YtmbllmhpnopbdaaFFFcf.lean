/-
  The model's l9Fold and FoldChange.
-/
import Derived.Deep.CutRange
import Derived.Test.YtmbllmhpnopbdaaFFFcs

namespace Go.Proofs.Ytmbllmhpnopbdaa
open Go.RowKit Go.Maps
set_option linter.unusedVariables false
set_option maxRecDepth 20000

theorem ChC.grown {V V' : World} {b o : Nat} {x : Chg} (h : ChC V b o x) {row : Option Nat} (hg : V.grownBy V' row) (hn : row ≠ some b) : ChC V' b o x :=
  ⟨hg.cell h.c0 (fun e => hn e.symm), hg.cell h.c1 (fun e => hn e.symm), hg.cell h.c2 (fun e => hn e.symm), hg.cell h.c3 (fun e => hn e.symm), hg.cell h.c4 (fun e => hn e.symm), hg.cell h.c5 (fun e => hn e.symm), hg.cell h.c6 (fun e => hn e.symm), hg.cell h.c7 (fun e => hn e.symm), hg.cell h.c8 (fun e => hn e.symm), hg.cell h.c9 (fun e => hn e.symm)⟩

/-- What l9Fold hands back. -/
def FdPost (r : Option (List Chg)) (w : World) (e : Ending) (w' : World) : Prop := match r with
  | some r => ∃ v, e = .returned (.tuple #[v, .bool true]) ∧ Below w.heap.size w w' ∧ w'.ownsRow w.heap.size 28 10 v r.length (flat chE r)
  | none => e = .returned (.tuple #[.slice none 0 0, .bool false]) ∧ Below w.heap.size w w'

/-- What stands in a round of l9Fold. -/
structure FS (w : World) (B0 cb xb : Nat) (c x : Chg) (o : List Chg) (v : Value) (W : World) : Prop where
  g : Below w.heap.size w W
  c : ChC W cb 0 c
  x : ChC W xb 0 x
  f : ∀ k, W.frozen? ⟨xb, k, none⟩ = false
  o : W.ownsRow B0 28 10 v o.length (flat chE o)
  n : ∀ k, v.ownBlock = some k → k ≠ xb
section
variable {w W W' : World} {B0 cb xb : Nat} {c x : Chg} {o : List Chg} {v v' : Value}
theorem FS.below (h : FS w B0 cb xb c x o v W) (hb : Below W.heap.size W W') : FS w B0 cb xb c x o v W' :=
  ⟨h.g.trans (hb.mono h.g.size), h.c.below hb h.c.lt, h.x.below hb h.x.lt, fun k => (hb.frozen (p := ⟨xb, k, none⟩) h.x.lt).trans (h.f k), ownsRow_below h.o hb, h.n⟩
theorem FS.app (h : FS w B0 cb xb c x o v W) {y : Chg} (ho : W'.ownsRow B0 28 10 v' (o.length + 1) (flat chE (o ++ [y]))) (hg : W.grownBy W' v.ownBlock) (hob : v'.ownBlock = v.ownBlock ∨ ∃ g, v'.ownBlock = some g ∧ xb < g) (hB : w.heap.size ≤ cb ∧ cb < B0) : FS w B0 cb xb c x (o ++ [y]) v' W' := by
  have h1 : v.ownBlock ≠ some cb := fun e => by have := (h.o.lt cb e).1; omega
  have h2 : v.ownBlock ≠ some xb := fun e => h.n xb e rfl
  refine ⟨Below.grown h.g hg h.g.size (fun k e => by have := (h.o.lt k e).1; omega), h.c.grown hg h1, h.x.grown hg h2, fun k => ?_, by rw [List.length_append]; exact ho, fun k e => ?_⟩
  · exact (World.frozen?_of_block (hg.block xb h.x.lt (fun e => h2 e.symm))).trans (h.f k)
  · rcases hob with hob | ⟨g, hob, hg'⟩
    · rw [hob] at e; exact h.n k e
    · rw [hob] at e
      injection e with e
      omega
theorem FS.turned (h : FS w B0 cb xb c x o v W) {y : Chg} (ht : Turned xb (xb + 1) W W') (hy : ChC W' xb 0 y) (hf : ∀ k, W'.frozen? ⟨xb, k, none⟩ = false) (hx : w.heap.size ≤ xb) (hne : xb ≠ cb) : FS w B0 cb xb c y o v W' := by
  have hc := h.c
  have hn : cb < xb ∨ xb + 1 ≤ cb := by omega
  refine ⟨h.g.trans (ht.toBelow h.g.size hx), hc.turned ht hn, hy, hf, ?_, h.n⟩
  exact h.o.kept (row := some xb) ⟨ht.os, ht.tape, ht.output, ht.size, fun k hk hne => ht.block k hk (fun e => hne (by rw [show k = xb by omega]))⟩ (.inr fun e => h.n xb e rfl)
end

theorem fdR_some {c x : Chg} {l : List Chg} {d : Bool} {o : List Chg} {R : Option (List Chg)} (h : (fdR c (x :: l) d).map (o ++ ·) = R) (hb : (kLt x c || kLt c x) = true) : (fdR c l (d || kLt c x)).map ((o ++ (if (!d && kLt c x) = true then [c] else []) ++ [x]) ++ ·) = R := by
  rw [fdR, if_pos hb, Option.map_map] at h
  rw [← h]
  congr 1
  funext r
  simp
theorem fdR_same {c x : Chg} {l : List Chg} {d : Bool} {o : List Chg} {R : Option (List Chg)} (h : (fdR c (x :: l) d).map (o ++ ·) = R) (hb : (kLt x c || kLt c x) = false) : R = if onB x c = true then (if nthB (joinC x c) = true then (fdR c l true).map (o ++ ·) else (fdR c l true).map ((o ++ [joinC x c]) ++ ·)) else none := by
  rw [fdR, if_neg (by rw [hb]; simp)] at h
  rw [← h]
  by_cases ho : onB x c = true
  · rw [if_pos ho, if_pos ho]
    by_cases hn : nthB (joinC x c) = true
    · rw [if_pos hn, if_pos hn]
    · rw [if_neg hn, if_neg hn, Option.map_map]
      congr 1
      funext r
      simp
  · rw [if_neg ho, if_neg ho]; rfl

set_option maxHeartbeats 16000000 in
theorem l9Fold_any (a : Option Addr) (cs : List Chg) (n cc : Nat) (c0 : Bool) (ct ck cv : Int) (cst : ByteArray) (c5 : Bool) (dt dk dv : Int) (dst : ByteArray) (w : World) (hn : cs.length = n) (hm : n ≤ 60) (hr : Rs chE 10 w a cs) :
    Calls Try.prog 27 #[.slice a n cc, .agg #[.bool c0, .int .i64 ct, .int .i64 ck, .int .i64 cv, .string cst, .bool c5, .int .i64 dt, .int .i64 dk, .int .i64 dv, .string dst]] w fun e w' => FdPost (fdR (⟨c0, ⟨ct, ck, cv, cst⟩, c5, ⟨dt, dk, dv, dst⟩⟩ : Chg) cs false) w e w' := by
  have HN : Hid (cs.length = n) := hn
  have HR : Hid (Rs chE 10 w a cs) := hr
  obtain ⟨R, hR0⟩ : ∃ R, fdR (⟨c0, ⟨ct, ck, cv, cst⟩, c5, ⟨dt, dk, dv, dst⟩⟩ : Chg) cs false = R := ⟨_, rfl⟩
  have HR0 : Hid (fdR (⟨c0, ⟨ct, ck, cv, cst⟩, c5, ⟨dt, dk, dv, dst⟩⟩ : Chg) cs false = R) := hR0
  rw [hR0]
  clear hn hr hR0
  go_enter Try.func27, Try.ntmps27
  go_upto_region 1 with (fail)
  generalize hX : World.alloc _ _ = X
  have gX : Below w.heap.size w X := by rw [← hX]; go_grown
  have hC : ChC X w.heap.size 0 (⟨c0, ⟨ct, ck, cv, cst⟩, c5, ⟨dt, dk, dv, dst⟩⟩ : Chg) := by rw [← hX]; exact ⟨by simp [go_sem], by simp [go_sem], by simp [go_sem], by simp [go_sem], by simp [go_sem], by simp [go_sem], by simp [go_sem], by simp [go_sem], by simp [go_sem], by simp [go_sem]⟩
  have hcX := hC.lt
  clear hX
  obtain ⟨cb, hcb⟩ : ∃ cb, w.heap.size = cb := ⟨_, rfl⟩
  have hcb1 : w.heap.size ≤ cb := by omega
  rw [hcb] at hC hcX
  simp only [hcb]
  clear hcb
  go_upto_region 2 with (fail)
  have gY : Below X.heap.size X (X.alloc (.cells #[] 28)) := by go_grown
  have ho0 : (X.alloc (.cells #[] 28)).ownsRow X.heap.size 28 10 (.slice (some ⟨X.heap.size, 0, none⟩) 0 0) ([] : List Chg).length (flat chE []) := ownsRow_lit0 X 28 10
  have hC := hC.below gY hcX
  have g := gX.trans (gY.mono gX.size)
  have hB1 : X.heap.size ≤ (X.alloc (.cells #[] 28)).heap.size := gY.size
  clear gX gY
  generalize X.alloc (.cells #[] 28) = Y at ho0 hC g hB1 ⊢
  generalize X.heap.size = B0 at ho0 hcX hB1 ⊢
  have hB0 : w.heap.size ≤ cb ∧ cb < B0 := ⟨hcb1, hcX⟩
  go_wp2_with fail
  go_loopw [8, 6, 7] (fun i v dn wr => ∃ (j : Nat) (o : List Chg) (d : Bool), j ≤ n ∧ i = .int .i64 j ∧ dn = .bool d ∧ Hid ((fdR (⟨c0, ⟨ct, ck, cv, cst⟩, c5, ⟨dt, dk, dv, dst⟩⟩ : Chg) (cs.drop j) d).map (o ++ ·) = R) ∧ o.length ≤ 2 * j ∧ Below w.heap.size w wr ∧ ChC wr cb 0 (⟨c0, ⟨ct, ck, cv, cst⟩, c5, ⟨dt, dk, dv, dst⟩⟩ : Chg) ∧ B0 ≤ wr.heap.size ∧ wr.ownsRow B0 28 10 v o.length (flat chE o)) (fun i _ _ _ => n - (intOf i).toNat)
  case atStart => exact ⟨0, [], false, Nat.zero_le _, rfl, rfl, by show _ = _; rw [← HR0.out]; simp, by simp, g, hC, hB1, ho0⟩
  case round =>
    clear g hC ho0 hB1
    obtain ⟨j, o, d, hj, rfl, rfl, hF, hol, g, hC, hB1, ho⟩ := hrel
    by_cases hlt : j < n
    · obtain ⟨x, hx⟩ : ∃ x, cs[j]? = some x := ⟨_, List.getElem?_eq_getElem (by rw [HN.out]; exact hlt)⟩
      obtain ⟨b, off, rfl⟩ : ∃ b off, a = some ⟨b, off, none⟩ := by
        obtain ⟨b, off, e, _⟩ := HR.out.chg hx
        exact ⟨b, off, e⟩
      have E : ChC wr b (off + j * 10) x := by
        have h1 := HR.out.chgAt hx
        exact h1.below g h1.lt
      have hjn : (j : Int) < (n : Int) := by omega
      have hdr : cs.drop j = x :: cs.drop (j + 1) := by
        obtain ⟨h1, h2⟩ := List.getElem?_eq_some_iff.1 hx
        rw [List.drop_eq_getElem_cons h1, h2]
      have HF : Hid ((fdR (⟨c0, ⟨ct, ck, cv, cst⟩, c5, ⟨dt, dk, dv, dst⟩⟩ : Chg) (x :: cs.drop (j + 1)) d).map (o ++ ·) = R) := by show _ = _; rw [← hdr]; exact hF.out
      clear hF hx hdr
      obtain ⟨x0, ⟨xt, xk, xv, xst⟩, x5, ⟨yt, yk, yv, yst⟩⟩ := x
      obtain ⟨e0, e1, e2, e3, e4, e5, e6, e7, e8, e9⟩ := E
      dsimp only at e0 e1 e2 e3 e4 e5 e6 e7 e8 e9
      go_upto_region 7 with (fail)
      generalize hY : World.alloc _ _ = Y7
      have gY : Below wr.heap.size wr Y7 := by rw [← hY]; go_grown
      have Z : ChC Y7 wr.heap.size 0 (⟨x0, ⟨xt, xk, xv, xst⟩, x5, ⟨yt, yk, yv, yst⟩⟩ : Chg) := by rw [← hY]; exact ⟨by simp [go_sem], by simp [go_sem], by simp [go_sem], by simp [go_sem], by simp [go_sem], by simp [go_sem], by simp [go_sem], by simp [go_sem], by simp [go_sem], by simp [go_sem]⟩
      have hfz : ∀ k, Y7.frozen? ⟨wr.heap.size, k, none⟩ = false := by intro k; rw [← hY]; simp [go_sem]
      have hS : FS w B0 cb wr.heap.size (⟨c0, ⟨ct, ck, cv, cst⟩, c5, ⟨dt, dk, dv, dst⟩⟩ : Chg) (⟨x0, ⟨xt, xk, xv, xst⟩, x5, ⟨yt, yk, yv, yst⟩⟩ : Chg) o u6 Y7 := ⟨g.trans (gY.mono g.size), hC.below gY hC.lt, Z, hfz, ownsRow_below ho gY, fun k e => by have := (ho.lt k e).2; omega⟩
      have hB1w : B0 ≤ wr.heap.size := hB1
      have hB1 : B0 ≤ Y7.heap.size := Nat.le_trans hB1 gY.size
      have hxb : wr.heap.size ≠ cb := by have := hC.lt; omega
      have hxb2 : w.heap.size ≤ wr.heap.size := g.size
      have hBx : B0 ≤ wr.heap.size := hB1w
      clear hY gY Z hfz hB1w e0 e1 e2 e3 e4 e5 e6 e7 e8 e9 g hC ho
      generalize wr.heap.size = xb at hS hxb hxb2 hBx ⊢
      have HA1 : Hid (∀ (V : World) (o' : List Chg) (v : Value), FS w B0 cb xb (⟨c0, ⟨ct, ck, cv, cst⟩, c5, ⟨dt, dk, dv, dst⟩⟩ : Chg) (⟨x0, ⟨xt, xk, xv, xst⟩, x5, ⟨yt, yk, yv, yst⟩⟩ : Chg) o' v V → Calls Try.prog 41 #[.pointer (some ⟨cb, 0, none⟩), .pointer (some ⟨xb, 0, none⟩)] V fun e w' => e = .returned (.bool (kLt (⟨c0, ⟨ct, ck, cv, cst⟩, c5, ⟨dt, dk, dv, dst⟩⟩ : Chg) (⟨x0, ⟨xt, xk, xv, xst⟩, x5, ⟨yt, yk, yv, yst⟩⟩ : Chg))) ∧ ∃ m, w' = V.drewN m) := fun V o' v h => l9Ahead_any cb 0 xb 0 _ _ V h.c h.x
      have HA2 : Hid (∀ (V : World) (o' : List Chg) (v : Value), FS w B0 cb xb (⟨c0, ⟨ct, ck, cv, cst⟩, c5, ⟨dt, dk, dv, dst⟩⟩ : Chg) (⟨x0, ⟨xt, xk, xv, xst⟩, x5, ⟨yt, yk, yv, yst⟩⟩ : Chg) o' v V → Calls Try.prog 41 #[.pointer (some ⟨xb, 0, none⟩), .pointer (some ⟨cb, 0, none⟩)] V fun e w' => e = .returned (.bool (kLt (⟨x0, ⟨xt, xk, xv, xst⟩, x5, ⟨yt, yk, yv, yst⟩⟩ : Chg) (⟨c0, ⟨ct, ck, cv, cst⟩, c5, ⟨dt, dk, dv, dst⟩⟩ : Chg))) ∧ ∃ m, w' = V.drewN m) := fun V o' v h => l9Ahead_any xb 0 cb 0 _ _ V h.x h.c
      obtain ⟨b1, hb1⟩ : ∃ b1, kLt (⟨c0, ⟨ct, ck, cv, cst⟩, c5, ⟨dt, dk, dv, dst⟩⟩ : Chg) (⟨x0, ⟨xt, xk, xv, xst⟩, x5, ⟨yt, yk, yv, yst⟩⟩ : Chg) = b1 := ⟨_, rfl⟩
      obtain ⟨b2, hb2⟩ : ∃ b2, kLt (⟨x0, ⟨xt, xk, xv, xst⟩, x5, ⟨yt, yk, yv, yst⟩⟩ : Chg) (⟨c0, ⟨ct, ck, cv, cst⟩, c5, ⟨dt, dk, dv, dst⟩⟩ : Chg) = b2 := ⟨_, rfl⟩
      rw [hb1] at HA1
      rw [hb2] at HA2
      have HK : Hid (kLt (⟨c0, ⟨ct, ck, cv, cst⟩, c5, ⟨dt, dk, dv, dst⟩⟩ : Chg) (⟨x0, ⟨xt, xk, xv, xst⟩, x5, ⟨yt, yk, yv, yst⟩⟩ : Chg) = b1 ∧ kLt (⟨x0, ⟨xt, xk, xv, xst⟩, x5, ⟨yt, yk, yv, yst⟩⟩ : Chg) (⟨c0, ⟨ct, ck, cv, cst⟩, c5, ⟨dt, dk, dv, dst⟩⟩ : Chg) = b2) := ⟨hb1, hb2⟩
      clear hb1 hb2
      go_cut [25] from 11 to 80 (fun s wd => s = .bool (!d && b1) ∧ FS w B0 cb xb (⟨c0, ⟨ct, ck, cv, cst⟩, c5, ⟨dt, dk, dv, dst⟩⟩ : Chg) (⟨x0, ⟨xt, xk, xv, xst⟩, x5, ⟨yt, yk, yv, yst⟩⟩ : Chg) o u6 wd)
      case first =>
        cases d
        · go_wp2_with fail
          refine (HA1.out _ _ _ hS).mono ?_
          rintro e W1 ⟨rfl, m1, rfl⟩
          have hS := hS.below (below_drewN _ _ m1)
          go_wp2_with fail
          go_meet
          case rel => exact ⟨by cases b1 <;> rfl, hS⟩
        · go_wp2_with fail
          go_meet
          case rel => exact ⟨rfl, hS⟩
      case rest =>
      clear hS
      obtain ⟨rfl, hS⟩ := hcut
      obtain ⟨tt, htt⟩ : ∃ tt, (!d && b1) = tt := ⟨_, rfl⟩
      have HTT : Hid ((!d && b1) = tt) := htt
      rw [htt]
      clear htt
      go_upto_if 25 with (fail)
      go_cut [6, 7] from 11 to 80 (fun s6 s7 wc => s7 = .bool (d || b1) ∧ FS w B0 cb xb (⟨c0, ⟨ct, ck, cv, cst⟩, c5, ⟨dt, dk, dv, dst⟩⟩ : Chg) (⟨x0, ⟨xt, xk, xv, xst⟩, x5, ⟨yt, yk, yv, yst⟩⟩ : Chg) (o ++ if tt = true then [(⟨c0, ⟨ct, ck, cv, cst⟩, c5, ⟨dt, dk, dv, dst⟩⟩ : Chg)] else []) s6 wc)
      case first =>
        cases tt
        · go_wp2_with fail
          go_meet
          case rel => exact ⟨(by have := HTT.out; cases d <;> cases b1 <;> first | rfl | (simp at this)), (by simpa using hS)⟩
        · obtain ⟨z0, z1, z2, z3, z4, z5, z6, z7, z8, z9⟩ := hS.c
          dsimp only at z0 z1 z2 z3 z4 z5 z6 z7 z8 z9
          have ho := hS.o
          have hbs : B0 ≤ _ := Nat.le_of_lt (Nat.lt_of_le_of_lt hBx hS.x.lt)
          go_wp2_with (at_builtin; refine wpList_append_sl elC _ rfl _ _ rfl B0 _ (o) [(⟨c0, ⟨ct, ck, cv, cst⟩, c5, ⟨dt, dk, dv, dst⟩⟩ : Chg)] (some ⟨wc.heap.size, 0, none⟩) 1 1 rfl rfl rfl (ownsRow_below ho (by go_grown)) (rs_one (enc := chE) wc (⟨c0, ⟨ct, ck, cv, cst⟩, c5, ⟨dt, dk, dv, dst⟩⟩ : Chg) 28) (show (o).length + 1 ≤ 100000000 by omega) (by simp; omega) ?_)
          intro v' w' ho' hg' hob
          have gAl : Below wc.heap.size wc (wc.alloc (.cells (chE (⟨c0, ⟨ct, ck, cv, cst⟩, c5, ⟨dt, dk, dv, dst⟩⟩ : Chg)).toArray 28)) := by go_grown
          have hS := FS.app (hS.below gAl) ho' hg' (hob.imp_right fun e => ⟨_, e, by have := hS.x.lt; omega⟩) hB0
          clear ho ho' hg' hob gAl hbs
          clear z0 z1 z2 z3 z4 z5 z6 z7 z8 z9
          go_wp2_with fail
          go_meet
          case rel => exact ⟨(by have := HTT.out; cases d <;> cases b1 <;> first | rfl | (simp at this)), (by simpa using hS)⟩
      case rest =>
        clear hS
        obtain ⟨rfl, hS⟩ := hcut
        rw [← HTT.out] at hS
        clear HTT
        obtain ⟨o1, ho1⟩ : ∃ o1, o ++ (if (!d && b1) = true then [(⟨c0, ⟨ct, ck, cv, cst⟩, c5, ⟨dt, dk, dv, dst⟩⟩ : Chg)] else []) = o1 := ⟨_, rfl⟩
        rw [ho1] at hS
        have HO1 : Hid (o ++ (if (!d && b1) = true then [(⟨c0, ⟨ct, ck, cv, cst⟩, c5, ⟨dt, dk, dv, dst⟩⟩ : Chg)] else []) = o1) := ho1
        have hol1 : o1.length ≤ 2 * j + 1 := by rw [← ho1, List.length_append]; split <;> simp <;> omega
        have hB1 : B0 ≤ wc.heap.size := Nat.le_trans (Nat.le_of_lt_succ (Nat.lt_succ_of_le hBx)) (Nat.le_of_lt hS.x.lt)
        clear ho1
        cases hbb : (b2 || b1)
        · have hb1 : b1 = false := by cases b1 <;> simp at hbb ⊢
          have hb2 : b2 = false := by cases b2 <;> simp at hbb ⊢
          subst hb1 hb2
          have HG : Hid (R = if onB (⟨x0, ⟨xt, xk, xv, xst⟩, x5, ⟨yt, yk, yv, yst⟩⟩ : Chg) (⟨c0, ⟨ct, ck, cv, cst⟩, c5, ⟨dt, dk, dv, dst⟩⟩ : Chg) = true then (if nthB (joinC (⟨x0, ⟨xt, xk, xv, xst⟩, x5, ⟨yt, yk, yv, yst⟩⟩ : Chg) (⟨c0, ⟨ct, ck, cv, cst⟩, c5, ⟨dt, dk, dv, dst⟩⟩ : Chg)) = true then (fdR (⟨c0, ⟨ct, ck, cv, cst⟩, c5, ⟨dt, dk, dv, dst⟩⟩ : Chg) (cs.drop (j + 1)) true).map (o1 ++ ·) else (fdR (⟨c0, ⟨ct, ck, cv, cst⟩, c5, ⟨dt, dk, dv, dst⟩⟩ : Chg) (cs.drop (j + 1)) true).map ((o1 ++ [joinC (⟨x0, ⟨xt, xk, xv, xst⟩, x5, ⟨yt, yk, yv, yst⟩⟩ : Chg) (⟨c0, ⟨ct, ck, cv, cst⟩, c5, ⟨dt, dk, dv, dst⟩⟩ : Chg)]) ++ ·)) else none) := by
            show _ = _
            have h1 := fdR_same HF.out (by rw [HK.out.1, HK.out.2]; rfl)
            have h2 : o1 = o := by rw [← HO1.out]; simp
            rw [h2]; exact h1
          have hd0 : (d || false) = d := Bool.or_false d
          rw [hd0]
          clear HF HK HO1 hbb hd0 hol
          go_wp2_with fail
          refine (HA2.out _ _ _ hS).mono ?_
          rintro e W1 ⟨rfl, m1, rfl⟩
          have hS := hS.below (below_drewN _ _ m1)
          generalize wc.drewN m1 = W1 at hS ⊢
          go_wp2_with fail
          refine (HA1.out _ _ _ hS).mono ?_
          rintro e W2 ⟨rfl, m2, rfl⟩
          have hS := hS.below (below_drewN _ _ m2)
          generalize W1.drewN m2 = W2 at hS ⊢
          clear HA1 HA2
          obtain ⟨tb, htb⟩ : ∃ tb, tb = onB (⟨x0, ⟨xt, xk, xv, xst⟩, x5, ⟨yt, yk, yv, yst⟩⟩ : Chg) (⟨c0, ⟨ct, ck, cv, cst⟩, c5, ⟨dt, dk, dv, dst⟩⟩ : Chg) := ⟨_, rfl⟩
          have HTB : Hid (onB (⟨x0, ⟨xt, xk, xv, xst⟩, x5, ⟨yt, yk, yv, yst⟩⟩ : Chg) (⟨c0, ⟨ct, ck, cv, cst⟩, c5, ⟨dt, dk, dv, dst⟩⟩ : Chg) = tb) := htb.symm
          clear htb
          go_upto_region 12 with (fail)
          go_cut [53] from 11 to 80 (fun s wx => s = .bool (!tb) ∧ wx = W2)
          case first =>
            obtain ⟨z0, z1, z2, z3, z4, z5, z6, z7, z8, z9⟩ := hS.c
            obtain ⟨v0, v1, v2, v3, v4, v5, v6, v7, v8, v9⟩ := hS.x
            dsimp only at z0 z1 z2 z3 z4 z5 z6 z7 z8 z9 v0 v1 v2 v3 v4 v5 v6 v7 v8 v9
            clear hS HG
            cases x5
            · cases c0
              · have HV : Hid (tb = true) := by show _ = _; rw [← HTB.out]; rfl
                go_wp2_with fail
                go_meet
                case rel => exact ⟨by rw [HV.out]; rfl, rfl⟩
              · have HV : Hid (tb = false) := by show _ = _; rw [← HTB.out]; rfl
                go_wp2_with fail
                go_meet
                case rel => exact ⟨by rw [HV.out]; rfl, rfl⟩
            · cases c0
              · have HV : Hid (tb = false) := by show _ = _; rw [← HTB.out]; rfl
                go_wp2_with fail
                go_meet
                case rel => exact ⟨by rw [HV.out]; rfl, rfl⟩
              · have e9 : onB ⟨x0, ⟨xt, xk, xv, xst⟩, true, ⟨yt, yk, yv, yst⟩⟩ ⟨true, ⟨ct, ck, cv, cst⟩, c5, ⟨dt, dk, dv, dst⟩⟩ = rwEq ⟨ct, ck, cv, cst⟩ ⟨yt, yk, yv, yst⟩ := rfl
                have HTB : Hid (rwEq ⟨ct, ck, cv, cst⟩ ⟨yt, yk, yv, yst⟩ = tb) := by show _ = _; rw [← e9]; exact HTB.out
                clear e9
                by_cases ht : yt = ct
                · by_cases hk : yk = ck
                  · by_cases hv : yv = cv
                    · by_cases hs : yst = cst
                      · have HV : Hid (tb = true) := by show _ = _; rw [← HTB.out]; simp [rwEq, ht, hk, hv, hs]
                        clear HTB
                        subst ht hk hv hs
                        go_wp2_with fail
                        go_meet
                        case rel => exact ⟨by rw [HV.out]; rfl, rfl⟩
                      · have HV : Hid (tb = false) := by show _ = _; rw [← HTB.out]; simp [rwEq]; intros; first | exact fun h => hs h.symm | (rename_i h1; exact absurd h1.symm hs) | (intro h; exact absurd h.symm hs) | omega
                        clear HTB
                        subst ht hk hv
                        have d : ¬ yst.toList = cst.toList := fun h => hs (by rw [ByteArray.toList_eq, ByteArray.toList_eq] at h; exact ByteArray.ext (Array.toList_inj.1 h))
                        go_wp2_with fail
                        go_meet
                        case rel => exact ⟨by rw [HV.out]; rfl, rfl⟩
                    · have HV : Hid (tb = false) := by show _ = _; rw [← HTB.out]; simp [rwEq]; intros; first | exact fun h => hv h.symm | (rename_i h1; exact absurd h1.symm hv) | (intro h; exact absurd h.symm hv) | omega
                      clear HTB
                      subst ht hk
                      have d : (yv == cv) = false := by simpa using hv
                      go_wp2_with fail
                      go_meet
                      case rel => exact ⟨by rw [HV.out]; rfl, rfl⟩
                  · have HV : Hid (tb = false) := by show _ = _; rw [← HTB.out]; simp [rwEq]; intros; first | exact fun h => hk h.symm | (rename_i h1; exact absurd h1.symm hk) | (intro h; exact absurd h.symm hk) | omega
                    clear HTB
                    subst ht
                    have d : (yk == ck) = false := by simpa using hk
                    go_wp2_with fail
                    go_meet
                    case rel => exact ⟨by rw [HV.out]; rfl, rfl⟩
                · have HV : Hid (tb = false) := by show _ = _; rw [← HTB.out]; simp [rwEq]; intros; first | exact fun h => ht h.symm | (rename_i h1; exact absurd h1.symm ht) | (intro h; exact absurd h.symm ht) | omega
                  clear HTB
                  have d : (yt == ct) = false := by simpa using ht
                  go_wp2_with fail
                  go_meet
                  case rel => exact ⟨by rw [HV.out]; rfl, rfl⟩
          case rest =>
            obtain ⟨rfl, rfl⟩ := hcut
            cases tb
            · have HRn : Hid (R = none) := by show _ = _; rw [HG.out, if_neg (by rw [HTB.out]; simp)]
              have g := hS.g
              clear hS HG HTB
              go_wp2_with fail
              refine bodyPost_ret (v := .tuple #[.slice none 0 0, .bool false]) (by simp [results, Try.results27, go_sem]) rfl ?_
              rw [HRn.out]
              exact ⟨rfl, g⟩
            · have HG : Hid (R = if nthB (joinC (⟨x0, ⟨xt, xk, xv, xst⟩, x5, ⟨yt, yk, yv, yst⟩⟩ : Chg) (⟨c0, ⟨ct, ck, cv, cst⟩, c5, ⟨dt, dk, dv, dst⟩⟩ : Chg)) = true then (fdR (⟨c0, ⟨ct, ck, cv, cst⟩, c5, ⟨dt, dk, dv, dst⟩⟩ : Chg) (cs.drop (j + 1)) true).map (o1 ++ ·) else (fdR (⟨c0, ⟨ct, ck, cv, cst⟩, c5, ⟨dt, dk, dv, dst⟩⟩ : Chg) (cs.drop (j + 1)) true).map ((o1 ++ [joinC (⟨x0, ⟨xt, xk, xv, xst⟩, x5, ⟨yt, yk, yv, yst⟩⟩ : Chg) (⟨c0, ⟨ct, ck, cv, cst⟩, c5, ⟨dt, dk, dv, dst⟩⟩ : Chg)]) ++ ·)) := by show _ = _; rw [HG.out, if_pos HTB.out]
              clear HTB
              have f5 := hS.f 5
              have f6 := hS.f 6
              have f7 := hS.f 7
              have f8 := hS.f 8
              have f9 := hS.f 9
              obtain ⟨z0, z1, z2, z3, z4, z5, z6, z7, z8, z9⟩ := hS.c
              obtain ⟨v0, v1, v2, v3, v4, v5, v6, v7, v8, v9⟩ := hS.x
              dsimp only at z0 z1 z2 z3 z4 z5 z6 z7 z8 z9 v0 v1 v2 v3 v4 v5 v6 v7 v8 v9
              have hxb' : cb ≠ xb := fun e => hxb e.symm
              go_upto_region 17 with (fail)
              generalize hY : World.setCell _ _ _ = Y3
              have T3 : Turned xb (xb + 1) wc Y3 := by
                rw [← hY]
                exact (((((Turned.refl _ _ _).setCell (p := ⟨xb, 5, none⟩) (Nat.le_refl _) (Nat.lt_succ_self _) _).setCell (p := ⟨xb, 6, none⟩) (Nat.le_refl _) (Nat.lt_succ_self _) _).setCell (p := ⟨xb, 7, none⟩) (Nat.le_refl _) (Nat.lt_succ_self _) _).setCell (p := ⟨xb, 8, none⟩) (Nat.le_refl _) (Nat.lt_succ_self _) _).setCell (p := ⟨xb, 9, none⟩) (Nat.le_refl _) (Nat.lt_succ_self _) _
              have Zx : ChC Y3 xb 0 (⟨x0, ⟨xt, xk, xv, xst⟩, c5, ⟨dt, dk, dv, dst⟩⟩ : Chg) := by rw [← hY]; clear hY T3; exact ⟨by simp [go_sem, *], by simp [go_sem, *], by simp [go_sem, *], by simp [go_sem, *], by simp [go_sem, *], by simp [go_sem, *], by simp [go_sem, *], by simp [go_sem, *], by simp [go_sem, *], by simp [go_sem, *]⟩
              have hf3 : ∀ k, Y3.frozen? ⟨xb, k, none⟩ = false := by intro k; rw [← hY]; simp only [World.frozen?_setCell]; exact hS.f k
              have hS2 : FS w B0 cb xb (⟨c0, ⟨ct, ck, cv, cst⟩, c5, ⟨dt, dk, dv, dst⟩⟩ : Chg) (⟨x0, ⟨xt, xk, xv, xst⟩, c5, ⟨dt, dk, dv, dst⟩⟩ : Chg) o1 u6 Y3 := hS.turned T3 Zx hf3 hxb2 hxb
              have hB1 : B0 ≤ Y3.heap.size := Nat.le_of_lt (Nat.lt_of_le_of_lt hBx Zx.lt)
              clear hY T3 Zx hf3 f5 f6 f7 f8 f9 z0 z1 z2 z3 z4 z5 z6 z7 z8 z9 v0 v1 v2 v3 v4 v5 v6 v7 v8 v9 hS
              have hS := hS2
              clear hS2
              obtain ⟨tn, htn⟩ : ∃ tn, tn = nthB (⟨x0, ⟨xt, xk, xv, xst⟩, c5, ⟨dt, dk, dv, dst⟩⟩ : Chg) := ⟨_, rfl⟩
              have HTN : Hid (nthB (⟨x0, ⟨xt, xk, xv, xst⟩, c5, ⟨dt, dk, dv, dst⟩⟩ : Chg) = tn) := htn.symm
              clear htn
              go_cut [76] from 11 to 80 (fun s wy => s = .bool tn ∧ wy = Y3)
              case first =>
                obtain ⟨v0, v1, v2, v3, v4, v5, v6, v7, v8, v9⟩ := hS.x
                dsimp only at v0 v1 v2 v3 v4 v5 v6 v7 v8 v9
                clear hS HG
                cases x0
                · cases c5
                  · have HV : Hid (tn = true) := by show _ = _; rw [← HTN.out]; rfl
                    go_wp2_with fail
                    go_meet
                    case rel => exact ⟨by rw [HV.out], rfl⟩
                  · have HV : Hid (tn = false) := by show _ = _; rw [← HTN.out]; rfl
                    go_wp2_with fail
                    go_meet
                    case rel => exact ⟨by rw [HV.out], rfl⟩
                · cases c5
                  · have HV : Hid (tn = false) := by show _ = _; rw [← HTN.out]; rfl
                    go_wp2_with fail
                    go_meet
                    case rel => exact ⟨by rw [HV.out], rfl⟩
                  · have HTN : Hid (rwEq ⟨xt, xk, xv, xst⟩ ⟨dt, dk, dv, dst⟩ = tn) := HTN
                    by_cases ht : xt = dt
                    · by_cases hk : xk = dk
                      · by_cases hv : xv = dv
                        · by_cases hs : xst = dst
                          · have HV : Hid (tn = true) := by show _ = _; rw [← HTN.out]; simp [rwEq, ht, hk, hv, hs]
                            clear HTN
                            subst ht hk hv hs
                            go_wp2_with fail
                            go_meet
                            case rel => exact ⟨by rw [HV.out], rfl⟩
                          · have HV : Hid (tn = false) := by show _ = _; rw [← HTN.out]; simp [rwEq, hs]
                            clear HTN
                            subst ht hk hv
                            have d : ¬ xst.toList = dst.toList := fun h => hs (by rw [ByteArray.toList_eq, ByteArray.toList_eq] at h; exact ByteArray.ext (Array.toList_inj.1 h))
                            go_wp2_with fail
                            go_meet
                            case rel => exact ⟨by rw [HV.out], rfl⟩
                        · have HV : Hid (tn = false) := by show _ = _; rw [← HTN.out]; simp [rwEq, hv]
                          clear HTN
                          subst ht hk
                          have d : (xv == dv) = false := by simpa using hv
                          go_wp2_with fail
                          go_meet
                          case rel => exact ⟨by rw [HV.out], rfl⟩
                      · have HV : Hid (tn = false) := by show _ = _; rw [← HTN.out]; simp [rwEq, hk]
                        clear HTN
                        subst ht
                        have d : (xk == dk) = false := by simpa using hk
                        go_wp2_with fail
                        go_meet
                        case rel => exact ⟨by rw [HV.out], rfl⟩
                    · have HV : Hid (tn = false) := by show _ = _; rw [← HTN.out]; simp [rwEq, ht]
                      clear HTN
                      have d : (xt == dt) = false := by simpa using ht
                      go_wp2_with fail
                      go_meet
                      case rel => exact ⟨by rw [HV.out], rfl⟩
              case rest =>
                obtain ⟨rfl, rfl⟩ := hcut
                have hjE : joinC (⟨x0, ⟨xt, xk, xv, xst⟩, x5, ⟨yt, yk, yv, yst⟩⟩ : Chg) (⟨c0, ⟨ct, ck, cv, cst⟩, c5, ⟨dt, dk, dv, dst⟩⟩ : Chg) = (⟨x0, ⟨xt, xk, xv, xst⟩, c5, ⟨dt, dk, dv, dst⟩⟩ : Chg) := rfl
                rw [hjE] at HG
                cases tn
                · have HN2 : Hid ((fdR (⟨c0, ⟨ct, ck, cv, cst⟩, c5, ⟨dt, dk, dv, dst⟩⟩ : Chg) (cs.drop (j + 1)) true).map ((o1 ++ [(⟨x0, ⟨xt, xk, xv, xst⟩, c5, ⟨dt, dk, dv, dst⟩⟩ : Chg)]) ++ ·) = R) := by show _ = _; rw [HG.out, if_neg (by rw [HTN.out]; simp)]
                  clear HG HTN hjE
                  obtain ⟨v0, v1, v2, v3, v4, v5, v6, v7, v8, v9⟩ := hS.x
                  dsimp only at v0 v1 v2 v3 v4 v5 v6 v7 v8 v9
                  have ho := hS.o
                  have hbs : B0 ≤ _ := Nat.le_of_lt (Nat.lt_of_le_of_lt hBx hS.x.lt)
                  go_wp2_with (at_builtin; refine wpList_append_sl elC _ rfl _ _ rfl B0 _ (o1) [(⟨x0, ⟨xt, xk, xv, xst⟩, c5, ⟨dt, dk, dv, dst⟩⟩ : Chg)] (some ⟨wc.heap.size, 0, none⟩) 1 1 rfl rfl rfl (ownsRow_below ho (by go_grown)) (rs_one (enc := chE) wc (⟨x0, ⟨xt, xk, xv, xst⟩, c5, ⟨dt, dk, dv, dst⟩⟩ : Chg) 28) (show (o1).length + 1 ≤ 100000000 by omega) (by simp; omega) ?_)
                  intro v' w' ho' hg' hob
                  have gAl : Below wc.heap.size wc (wc.alloc (.cells (chE (⟨x0, ⟨xt, xk, xv, xst⟩, c5, ⟨dt, dk, dv, dst⟩⟩ : Chg)).toArray 28)) := by go_grown
                  have hS := FS.app (hS.below gAl) ho' hg' (hob.imp_right fun e => ⟨_, e, by have := hS.x.lt; omega⟩) hB0
                  clear ho ho' hg' hob gAl hbs
                  clear v0 v1 v2 v3 v4 v5 v6 v7 v8 v9
                  have hB2 : B0 ≤ w'.heap.size := Nat.le_of_lt (Nat.lt_of_le_of_lt hBx hS.x.lt)
                  go_wp2_with fail
                  go_roundw
                  case rel => exact ⟨j + 1, _, true, by omega, by go_num, rfl, HN2, by simp; omega, hS.g, hS.c, hB2, hS.o⟩
                  case measure => simp [intOf]; omega
                · have HN2 : Hid ((fdR (⟨c0, ⟨ct, ck, cv, cst⟩, c5, ⟨dt, dk, dv, dst⟩⟩ : Chg) (cs.drop (j + 1)) true).map (o1 ++ ·) = R) := by show _ = _; rw [HG.out, if_pos HTN.out]
                  clear HG HTN hjE
                  go_wp2_with fail
                  go_roundw
                  case rel => exact ⟨j + 1, _, true, by omega, by go_num, rfl, HN2, by omega, hS.g, hS.c, hB1, hS.o⟩
                  case measure => simp [intOf]; omega
        · have HN2 : Hid ((fdR (⟨c0, ⟨ct, ck, cv, cst⟩, c5, ⟨dt, dk, dv, dst⟩⟩ : Chg) (cs.drop (j + 1)) (d || b1)).map ((o1 ++ [(⟨x0, ⟨xt, xk, xv, xst⟩, x5, ⟨yt, yk, yv, yst⟩⟩ : Chg)]) ++ ·) = R) := by
            show _ = _
            have h1 := fdR_some HF.out (by rw [HK.out.1, HK.out.2]; exact hbb)
            rw [HK.out.1] at h1
            rw [← HO1.out]
            exact h1
          clear HF HK HO1 hol
          generalize (d || b1) = d' at HN2 ⊢
          have HS : Hid (∀ W, FS w B0 cb xb (⟨c0, ⟨ct, ck, cv, cst⟩, c5, ⟨dt, dk, dv, dst⟩⟩ : Chg) (⟨x0, ⟨xt, xk, xv, xst⟩, x5, ⟨yt, yk, yv, yst⟩⟩ : Chg) o1 u6 W → FS w B0 cb xb (⟨c0, ⟨ct, ck, cv, cst⟩, c5, ⟨dt, dk, dv, dst⟩⟩ : Chg) (⟨x0, ⟨xt, xk, xv, xst⟩, x5, ⟨yt, yk, yv, yst⟩⟩ : Chg) o1 u6 W) := fun W h => h
          go_upto_region 10 with (fail)
          go_cut [33] from 11 to 80 (fun s wx => s = .bool true ∧ FS w B0 cb xb (⟨c0, ⟨ct, ck, cv, cst⟩, c5, ⟨dt, dk, dv, dst⟩⟩ : Chg) (⟨x0, ⟨xt, xk, xv, xst⟩, x5, ⟨yt, yk, yv, yst⟩⟩ : Chg) o1 u6 wx ∧ B0 ≤ wx.heap.size)
          case first =>
            cases b2
            · have hb1 : b1 = true := by simpa using hbb
              subst hb1
              go_wp2_with fail
              refine (HA2.out _ _ _ hS).mono ?_
              rintro e W1 ⟨rfl, m1, rfl⟩
              have hS := hS.below (below_drewN _ _ m1)
              generalize wc.drewN m1 = W1 at hS ⊢
              go_wp2_with fail
              refine (HA1.out _ _ _ hS).mono ?_
              rintro e W2 ⟨rfl, m2, rfl⟩
              have hS := hS.below (below_drewN _ _ m2)
              go_wp2_with fail
              go_meet
              case rel => exact ⟨rfl, hS, Nat.le_of_lt (Nat.lt_of_le_of_lt hBx hS.x.lt)⟩
            · go_wp2_with fail
              refine (HA2.out _ _ _ hS).mono ?_
              rintro e W1 ⟨rfl, m1, rfl⟩
              have hS := hS.below (below_drewN _ _ m1)
              go_wp2_with fail
              go_meet
              case rel => exact ⟨rfl, hS, Nat.le_of_lt (Nat.lt_of_le_of_lt hBx hS.x.lt)⟩
          case rest =>
            clear hS HA1 HA2 HS
            obtain ⟨rfl, hS, hB1⟩ := hcut
            obtain ⟨v0, v1, v2, v3, v4, v5, v6, v7, v8, v9⟩ := hS.x
            dsimp only at v0 v1 v2 v3 v4 v5 v6 v7 v8 v9
            have ho := hS.o
            have hbs : B0 ≤ _ := Nat.le_of_lt (Nat.lt_of_le_of_lt hBx hS.x.lt)
            go_wp2_with (at_builtin; refine wpList_append_sl elC _ rfl _ _ rfl B0 _ (o1) [(⟨x0, ⟨xt, xk, xv, xst⟩, x5, ⟨yt, yk, yv, yst⟩⟩ : Chg)] (some ⟨wc.heap.size, 0, none⟩) 1 1 rfl rfl rfl (ownsRow_below ho (by go_grown)) (rs_one (enc := chE) wc (⟨x0, ⟨xt, xk, xv, xst⟩, x5, ⟨yt, yk, yv, yst⟩⟩ : Chg) 28) (show (o1).length + 1 ≤ 100000000 by omega) (by simp; omega) ?_)
            intro v' w' ho' hg' hob
            have gAl : Below wc.heap.size wc (wc.alloc (.cells (chE (⟨x0, ⟨xt, xk, xv, xst⟩, x5, ⟨yt, yk, yv, yst⟩⟩ : Chg)).toArray 28)) := by go_grown
            have hS := FS.app (hS.below gAl) ho' hg' (hob.imp_right fun e => ⟨_, e, by have := hS.x.lt; omega⟩) hB0
            clear ho ho' hg' hob gAl hbs
            clear v0 v1 v2 v3 v4 v5 v6 v7 v8 v9
            have hB2 : B0 ≤ w'.heap.size := Nat.le_of_lt (Nat.lt_of_le_of_lt hBx hS.x.lt)
            go_wp2_with fail
            go_roundw
            case rel => exact ⟨j + 1, _, d', by omega, by go_num, rfl, HN2, by simp; omega, hS.g, hS.c, hB2, hS.o⟩
            case measure => simp [intOf]; omega
    · have e : j = n := by omega
      subst e
      have hjn : ¬ (j : Int) < (j : Int) := by omega
      have hdr : cs.drop j = [] := List.drop_of_length_le (by rw [HN.out]; exact Nat.le_refl _)
      rw [hdr] at hF
      cases d
      · have HRs : Hid (R = some (o ++ [(⟨c0, ⟨ct, ck, cv, cst⟩, c5, ⟨dt, dk, dv, dst⟩⟩ : Chg)])) := by show _ = _; rw [← hF.out]; rfl
        clear hF hdr
        obtain ⟨z0, z1, z2, z3, z4, z5, z6, z7, z8, z9⟩ := hC
        dsimp only at z0 z1 z2 z3 z4 z5 z6 z7 z8 z9
        go_wp2_with (at_builtin; refine wpList_append_sl elC _ rfl _ _ rfl B0 _ o [(⟨c0, ⟨ct, ck, cv, cst⟩, c5, ⟨dt, dk, dv, dst⟩⟩ : Chg)] (some ⟨wr.heap.size, 0, none⟩) 1 1 rfl rfl rfl (ownsRow_below ho (by go_grown)) (rs_one (enc := chE) wr (⟨c0, ⟨ct, ck, cv, cst⟩, c5, ⟨dt, dk, dv, dst⟩⟩ : Chg) 28) (show o.length + 1 ≤ 100000000 by omega) (by simp; omega) ?_)
        intro v' w' ho' hg' hob
        have gAl : Below wr.heap.size wr (wr.alloc (.cells (chE (⟨c0, ⟨ct, ck, cv, cst⟩, c5, ⟨dt, dk, dv, dst⟩⟩ : Chg)).toArray 28)) := by go_grown
        have g' : Below w.heap.size w w' := Below.grown (g.trans (gAl.mono g.size)) hg' (by have := g.size; have := gAl.size; omega) (fun k e => by have := (ho.lt k e).1; omega)
        have HO : Hid (w'.ownsRow B0 28 10 v' (o ++ [(⟨c0, ⟨ct, ck, cv, cst⟩, c5, ⟨dt, dk, dv, dst⟩⟩ : Chg)]).length (flat chE (o ++ [(⟨c0, ⟨ct, ck, cv, cst⟩, c5, ⟨dt, dk, dv, dst⟩⟩ : Chg)]))) := by show World.ownsRow _ _ _ _ _ _ _; rw [List.length_append]; exact ho'
        clear ho ho' hg' hob gAl g z0 z1 z2 z3 z4 z5 z6 z7 z8 z9
        go_wp2_with fail
        refine bodyPost_ret (v := .tuple #[v', .bool true]) (by simp [results, Try.results27, go_sem]) rfl ?_
        rw [HRs.out]
        exact ⟨v', rfl, g', ownsRow_base HO.out (by omega)⟩
      · have HRs : Hid (R = some o) := by show _ = _; rw [← hF.out]; simp [fdR]
        clear hF hdr
        have HO : Hid (wr.ownsRow B0 28 10 u6 o.length (flat chE o)) := ho
        clear ho
        go_wp2_with fail
        refine bodyPost_ret (v := .tuple #[u6, .bool true]) (by simp [results, Try.results27, go_sem]) rfl ?_
        rw [HRs.out]
        exact ⟨u6, rfl, g, ownsRow_base HO.out (by omega)⟩

end Go.Proofs.Ytmbllmhpnopbdaa
