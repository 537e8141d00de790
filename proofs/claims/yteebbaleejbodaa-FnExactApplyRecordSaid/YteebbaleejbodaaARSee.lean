/-
  The program's seenRows.
-/
import Derived.Test.YteebbaleejbodaaARStf

namespace Go.Proofs.Yteebbaleejbodaa
open Go.RowKit Go.Maps
set_option linter.unusedVariables false

/-- An answer of FindRow: a row and its place. -/
structure Plc where
  q : Int
  p : Int
  s : Int
  r : Rw
def plE (x : Plc) : List Value := [.int .i64 x.q, .int .i64 x.p, .int .i64 x.s, .int .i64 x.r.t, .int .i64 x.r.k, .int .i64 x.r.v, .string x.r.s]
theorem plE_len (x : Plc) : (plE x).length = 7 := rfl
theorem infoL' : (Try.prog.info? 215).map (fun i => (i.zero, i.size, i.bytes)) = some (some (.agg #[.int .i64 0, .int .i64 0, .int .i64 0, .int .i64 0, .int .i64 0, .int .i64 0, .string ⟨#[]⟩]), 7, 64) := by kernel_rfl
theorem infoL : ∃ i, Try.prog.info? 215 = some i ∧ i.zero = some (.agg #[.int .i64 0, .int .i64 0, .int .i64 0, .int .i64 0, .int .i64 0, .int .i64 0, .string ⟨#[]⟩]) ∧ i.size = 7 ∧ i.bytes = 64 := by
  have h := infoL'
  cases hi : Try.prog.info? 215 with
  | none => rw [hi] at h; simp at h
  | some i => rw [hi] at h; simp at h; exact ⟨i, rfl, h.1, h.2.1, h.2.2⟩
theorem elPl : ElT 212 215 plE 7 64 where
  und := Try.underlying212
  inf := by obtain ⟨i, h1, h2, h3, h4⟩ := infoL; exact ⟨i, _, h1, h2, h3, h4, rfl⟩
  len := plE_len
  one := by intro x u hu; simp [plE] at hu; rcases hu with rfl | rfl | rfl | rfl | rfl | rfl | rfl <;> rfl
  pos := by decide
  few := by decide

/-- The row of a value. -/
def rwOf : Option Value → Rw
  | some (.agg cs) => (match cs.toList with | [.int _ t, .int _ k, .int _ v, .string s] => ⟨t, k, v, s⟩ | _ => ⟨0, 0, 0, ⟨#[]⟩⟩)
  | _ => ⟨0, 0, 0, ⟨#[]⟩⟩
/-- What is seen of a cell. -/
def see1 (f : Int → Int → Option Value) (x : Spt) : List Plc :=
  if x.c.f = 0 then [⟨0, x.p, x.s, ⟨x.c.t, x.c.k, x.c.v, x.c.s⟩⟩] else if x.c.f = 1 then [⟨0, x.p, x.s, rwOf (f x.c.p x.c.l)⟩] else []
def plF (f : Int → Int → Option Value) (xs : List Spt) : List Plc := xs.flatMap (see1 f)
theorem plF_snoc (f : Int → Int → Option Value) (xs : List Spt) (x : Spt) : plF f (xs ++ [x]) = plF f xs ++ see1 f x := by simp [plF]
theorem plF_len (f : Int → Int → Option Value) (xs : List Spt) : (plF f xs).length ≤ xs.length := by
  induction xs with
  | nil => simp [plF]
  | cons x xs ih =>
    have : (see1 f x).length ≤ 1 := by unfold see1; split <;> (try split) <;> simp
    simp only [plF, List.flatMap_cons, List.length_append, List.length_cons] at ih ⊢
    omega

theorem rs_one {α : Type} {enc : α → List Value} {k : Nat} (w : World) (y : α) (t : TypeId) : Rs enc k (w.alloc (.cells (enc y).toArray t)) (some ⟨w.heap.size, 0, none⟩) [y] := by
  refine .inr ⟨_, 0, rfl, fun i z hz j u hu => ?_⟩
  have hi : i = 0 := by
    have := (List.getElem?_eq_some_iff.1 hz).1
    simp at this; exact this
  subst hi
  simp at hz
  subst hz
  have := cells_new w (enc y) t j u hu
  have ea : (⟨w.heap.size, 0, none⟩ : Addr).add j = ⟨w.heap.size, j, none⟩ := by unfold Addr.add; split <;> simp_all
  rw [ea] at this
  simpa using this

theorem StS.grow {w : World} {cb mb msz : Nat} {x : Spt} {f : Int → Int → Option Value} {V W : World} (h : StS w cb mb msz x f V) {row : Option Nat} (hg : V.grownBy W row) (h1 : ∀ k, row = some k → w.heap.size ≤ k) (h2 : row ≠ some cb) (h3 : row ≠ some mb) : StS w cb mb msz x f W := by
  have up : ∀ (p : Nat) (v : Value), V.cell? ⟨cb, p, none⟩ = some v → W.cell? ⟨cb, p, none⟩ = some v := fun p v h => by
    have hl := World.block_lt_of_cell? V _ h
    rw [World.cell?_of_block (w := V) (hg.block cb hl (fun e => h2 e.symm))]; exact h
  exact ⟨⟨up _ _ h.c.c0, up _ _ h.c.c1, up _ _ h.c.c2, up _ _ h.c.c3, up _ _ h.c.c4, up _ _ h.c.c5, up _ _ h.c.c6, up _ _ h.c.c7, up _ _ h.c.c8, up _ _ h.c.c9⟩, Below.grown h.g hg h.g.size h1, h.m.kept hg (fun e => h3 e.symm)⟩

set_option maxRecDepth 20000 in
set_option maxHeartbeats 4000000 in
theorem seenRows_any (a : Option Addr) (xs : List Spt) (n c : Nat) (w : World) (mb msz : Nat) (f : Int → Int → Option Value) (hn : xs.length = n) (hm : n ≤ 1000) (hk : ∀ x ∈ xs, SpOk x) (hr : Rs spE 10 w a xs) (hMm : MapF 250 w mb f msz) (hrow : ∀ x y v, f x y = some v → ∃ t k u s, v = .agg #[.int .i64 t, .int .i64 k, .int .i64 u, .string s]) (hno : noneB f xs = false) :
    Calls Try.prog 152 #[.slice a n c, .map (some mb)] w fun e w' => ∃ v, e = .returned v ∧ Below w.heap.size w w' ∧ w'.ownsRow w.heap.size 215 7 v (plF f xs).length (flat plE (plF f xs)) := by
  have HN : Hid (xs.length = n) := hn
  have HK : Hid (∀ x ∈ xs, SpOk x) := hk
  have HR : Hid (Rs spE 10 w a xs) := hr
  have HRow : Hid (∀ x y v, f x y = some v → ∃ t k u s, v = .agg #[.int .i64 t, .int .i64 k, .int .i64 u, .string s]) := hrow
  have HNo : Hid (∀ x ∈ xs, x.c.f = 1 → f x.c.p x.c.l ≠ none) := by
    intro x hx h1 h2
    unfold noneB at hno
    rw [List.any_eq_false] at hno
    exact hno x hx (by simp [h1, h2])
  have hmb := hMm.lt
  clear hn hk hr hrow hno
  go_enter Try.func152, Try.ntmps152
  go_wp2_with fail
  go_loopw [10, 5] (fun i v wr => ∃ j : Nat, j ≤ n ∧ i = .int .i64 j ∧ Below w.heap.size w wr ∧ MapF 250 wr mb f msz ∧ wr.ownsRow w.heap.size 215 7 v (plF f (xs.take j)).length (flat plE (plF f (xs.take j)))) (fun i _ _ => n - (intOf i).toNat)
  case atStart => exact ⟨0, Nat.zero_le _, rfl, Below.refl _ _, hMm, ownsRow_nil _ _ _ _⟩
  case round =>
    clear hMm
    obtain ⟨j, hj, rfl, g, hMm, ho⟩ := hrel
    by_cases hlt : j < n
    · obtain ⟨x, hx⟩ := at_lt' (rs := xs) (i := j) (by rw [HN.out]; exact hlt)
      obtain ⟨b, off, rfl, X⟩ := HR.out.spot hx
      have X := X.below g X.lt
      have hxm := List.mem_of_getElem? hx
      have hok := HK.out x hxm
      have hjn : (j : Int) < (n : Int) := by omega
      have HT : Hid (plF f (xs.take (j + 1)) = plF f (xs.take j) ++ see1 f x) := by show _ = _; rw [take_snoc hx, plF_snoc]
      have hlen : (plF f (xs.take j)).length + 1 ≤ 100000000 := by have := plF_len f (xs.take j); rw [List.length_take] at this; omega
      have hnn := HNo.out x hxm
      clear hx hxm
      obtain ⟨xp, xs', xq, xf, xcp, xcl, xct, xck, xcv, xcs⟩ := x
      obtain ⟨x0, x1, x2, x3, x4, x5, x6, x7, x8, x9⟩ := X
      obtain ⟨o1, o2, o3, o4, o5, o6, o7, o8, o9⟩ := hok
      dsimp only at x0 x1 x2 x3 x4 x5 x6 x7 x8 x9 o1 o2 o3 o4 o5 o6 o7 o8 o9 hnn
      subst o7
      have hgs := g.size
      have hKw : Hid (Kw xcp xcl) := kw_small o3 o4
      generalize plF f (xs.take j) = ys at ho HT hlen
      go_upto_region 5 with (fail)
      generalize hY : World.alloc _ _ = Y
      have gY : Below wr.heap.size wr Y := by rw [← hY]; go_grown
      have C : SpC Y wr.heap.size 0 ⟨xp, xs', ⟨0, xf, xcp, xcl, xct, xck, xcv, xcs⟩⟩ := by rw [← hY]; exact ⟨by simp [go_sem], by simp [go_sem], by simp [go_sem], by simp [go_sem], by simp [go_sem], by simp [go_sem], by simp [go_sem], by simp [go_sem], by simp [go_sem], by simp [go_sem]⟩
      have hcb : ∀ k, u5.ownBlock = some k → k ≠ wr.heap.size := fun k hk => by have := (ho.lt k hk).2; omega
      have hcm : ∀ k, u5.ownBlock = some k → k ≠ mb := fun k hk => by have := (ho.lt k hk).1; omega
      have ho := ownsRow_below ho gY
      have hMm := hMm.below gY
      have g := g.trans (gY.mono g.size)
      clear hY gY x0 x1 x2 x3 x4 x5 x6 x7 x8 x9
      generalize wr.heap.size = cb at C hcb ⊢
      obtain ⟨y0, y1, y2, y3, y4, y5, y6, y7, y8, y9⟩ := C
      have C : SpC Y cb 0 ⟨xp, xs', ⟨0, xf, xcp, xcl, xct, xck, xcv, xcs⟩⟩ := ⟨y0, y1, y2, y3, y4, y5, y6, y7, y8, y9⟩
      dsimp only at y0 y1 y2 y3 y4 y5 y6 y7 y8 y9
      rcases o8 with rfl | rfl | rfl
      · have HT2 : Hid (plF f (xs.take (j + 1)) = ys ++ [⟨0, xp, xs', ⟨xct, xck, xcv, xcs⟩⟩]) := by rw [HT.out]; rfl
        have hgs2 := g.size
        go_wp2_with (at_builtin; refine wpList_append_sl elPl _ rfl _ _ rfl w.heap.size _ ys [⟨0, xp, xs', ⟨xct, xck, xcv, xcs⟩⟩] (some ⟨Y.heap.size, 0, none⟩) 1 1 rfl rfl rfl (ownsRow_below ho (by go_grown)) (rs_one (enc := plE) Y ⟨0, xp, xs', ⟨xct, xck, xcv, xcs⟩⟩ 215) hlen (by simp; omega) ?_)
        intro v' w' ho' hg' _
        have hS : StS w cb mb msz ⟨xp, xs', ⟨0, 0, xcp, xcl, xct, xck, xcv, xcs⟩⟩ f Y := ⟨C, g, hMm⟩
        have hS := (hS.up ((Below.refl _ _).alloc (Nat.le_refl _) _)).grow hg' (fun k hk => (ho.lt k hk).1) (fun e => hcb _ e rfl) (fun e => hcm _ e rfl)
        have ho2 : w'.ownsRow w.heap.size 215 7 v' (plF f (xs.take (j + 1))).length (flat plE (plF f (xs.take (j + 1)))) := by rw [HT2.out, List.length_append]; exact ho'
        have g2 := hS.g
        have m2 := hS.m
        clear hS ho' hg' ho C y0 y1 y2 y3 y4 y5 y6 y7 y8 y9 g hMm
        go_wp2_with fail
        go_roundw
        case rel => exact ⟨j + 1, by omega, by go_num, g2, m2, ho2⟩
        case measure => simp [intOf]; omega
      · obtain ⟨vv0, hfv⟩ : ∃ v, f xcp xcl = some v := Option.ne_none_iff_exists'.1 (hnn rfl)
        obtain ⟨vt, vk, vv, vs, rfl⟩ := HRow.out _ _ _ hfv
        have HT2 : Hid (plF f (xs.take (j + 1)) = ys ++ [⟨0, xp, xs', ⟨vt, vk, vv, vs⟩⟩]) := by
          show _ = _
          rw [HT.out]
          simp [see1, hfv, rwOf]
        have hfv : Hid (f xcp xcl = some (.agg #[.int .i64 vt, .int .i64 vk, .int .i64 vv, .string vs])) := hfv
        clear hnn
        go_upto_region 9 with (fail)
        clear y0 y1 y2 y3 y4 y5 y6 y7 y8 y9
        have hS : StS w cb mb msz ⟨xp, xs', ⟨0, 1, xcp, xcl, xct, xck, xcv, xcs⟩⟩ f Y := ⟨C, g, hMm⟩
        refine wp_region_held_drew (S := fun V => StS w cb mb msz ⟨xp, xs', ⟨0, 1, xcp, xcl, xct, xck, xcv, xcs⟩⟩ f V) (by kernel_rfl) (hS.up (Below.refl _ _).drew) (fun hHeld => ?_)
        have ho := ownsRow_below ho (Below.refl _ _).drew
        generalize Y.drew = D at hHeld ho ⊢
        clear hS C g hMm
        refine wpAnyH_take (i := 0) (v := ?v1) rfl (by kernel_rfl) (by kernel_rfl) (by kernel_rfl) (fun _ _ _ h => h) (Or.inl ⟨by kernel_rfl, ?h1⟩) hHeld ?_
        case h1 => intro u hSw; (try dsimp only at hSw); go_simp; try with_reducible rfl
        try simp only [List.getElem_toArray]
        try simp only [List.getElem_cons_succ]
        try simp only [List.getElem_cons_zero]
        try simp only [Act.put]
        try simp only [List.setIfInBounds_toArray]
        try simp only [List.set]
        refine wpAnyH_take (i := 1) (v := ?v2) rfl (by kernel_rfl) (by kernel_rfl) (by kernel_rfl) (fun _ _ _ h => h) (Or.inl ⟨by kernel_rfl, ?h2⟩) hHeld ?_
        case h2 => intro u hSw; (try dsimp only at hSw); go_simp; try with_reducible rfl
        try simp only [List.getElem_toArray]
        try simp only [List.getElem_cons_succ]
        try simp only [List.getElem_cons_zero]
        try simp only [Act.put]
        try simp only [List.setIfInBounds_toArray]
        try simp only [List.set]
        refine wpAnyH_take (i := 2) (v := ?v3) rfl (by kernel_rfl) (by kernel_rfl) (by kernel_rfl) (fun _ _ _ h => h) (Or.inl ⟨by kernel_rfl, ?h3⟩) hHeld ?_
        case h3 => intro u hSw; (try dsimp only at hSw); go_simp; try with_reducible rfl
        try simp only [List.getElem_toArray]
        try simp only [List.getElem_cons_succ]
        try simp only [List.getElem_cons_zero]
        try simp only [Act.put]
        try simp only [List.setIfInBounds_toArray]
        try simp only [List.set]
        refine wpAnyH_take (i := 3) (v := ?v4) rfl (by kernel_rfl) (by kernel_rfl) (by kernel_rfl) (fun _ _ _ h => h) (Or.inl ⟨by kernel_rfl, ?h4⟩) hHeld ?_
        case h4 => intro u hSw; obtain ⟨q0, q1, q2, q3, q4, q5, q6, q7, q8, q9⟩ := hSw.c; dsimp only at q0 q1 q2 q3 q4 q5 q6 q7 q8 q9; clear hSw; go_simp; try with_reducible rfl
        try simp only [List.getElem_toArray]
        try simp only [List.getElem_cons_succ]
        try simp only [List.getElem_cons_zero]
        try simp only [Act.put]
        try simp only [List.setIfInBounds_toArray]
        try simp only [List.set]
        refine wpAnyH_take (i := 4) (v := ?v5) rfl (by kernel_rfl) (by kernel_rfl) (by kernel_rfl) (fun _ _ _ h => h) (Or.inl ⟨by kernel_rfl, ?h5⟩) hHeld ?_
        case h5 => intro u hSw; (try dsimp only at hSw); go_simp; try with_reducible rfl
        try simp only [List.getElem_toArray]
        try simp only [List.getElem_cons_succ]
        try simp only [List.getElem_cons_zero]
        try simp only [Act.put]
        try simp only [List.setIfInBounds_toArray]
        try simp only [List.set]
        refine wpAnyH_take (i := 5) (v := ?v6) rfl (by kernel_rfl) (by kernel_rfl) (by kernel_rfl) (fun _ _ _ h => h) (Or.inl ⟨by kernel_rfl, ?h6⟩) hHeld ?_
        case h6 => intro u hSw; (try dsimp only at hSw); go_simp; try with_reducible rfl
        try simp only [List.getElem_toArray]
        try simp only [List.getElem_cons_succ]
        try simp only [List.getElem_cons_zero]
        try simp only [Act.put]
        try simp only [List.setIfInBounds_toArray]
        try simp only [List.set]
        refine wpAnyH_take (i := 6) (v := ?v7) rfl (by kernel_rfl) (by kernel_rfl) (by kernel_rfl) (fun _ _ _ h => h) (Or.inl ⟨by kernel_rfl, ?h7⟩) hHeld ?_
        case h7 => intro u hSw; obtain ⟨q0, q1, q2, q3, q4, q5, q6, q7, q8, q9⟩ := hSw.c; dsimp only at q0 q1 q2 q3 q4 q5 q6 q7 q8 q9; clear hSw; go_simp; try with_reducible rfl
        try simp only [List.getElem_toArray]
        try simp only [List.getElem_cons_succ]
        try simp only [List.getElem_cons_zero]
        try simp only [Act.put]
        try simp only [List.setIfInBounds_toArray]
        try simp only [List.set]
        refine wpAnyH_take (i := 7) (v := ?v8) rfl (by kernel_rfl) (by kernel_rfl) (by kernel_rfl) (fun _ _ _ h => h) (Or.inl ⟨by kernel_rfl, ?h8⟩) hHeld ?_
        case h8 => intro u hSw; (try dsimp only at hSw); go_simp; try with_reducible rfl
        try simp only [List.getElem_toArray]
        try simp only [List.getElem_cons_succ]
        try simp only [List.getElem_cons_zero]
        try simp only [Act.put]
        try simp only [List.setIfInBounds_toArray]
        try simp only [List.set]
        refine wpAnyH_take (i := 8) (v := ?v9) rfl (by kernel_rfl) (by kernel_rfl) (by kernel_rfl) (fun _ _ _ h => h) (Or.inl ⟨by kernel_rfl, ?h9⟩) hHeld ?_
        case h9 => intro u hSw; obtain ⟨q0, q1, q2, q3, q4, q5, q6, q7, q8, q9⟩ := hSw.c; dsimp only at q0 q1 q2 q3 q4 q5 q6 q7 q8 q9; clear hSw; go_simp; try with_reducible rfl
        try simp only [List.getElem_toArray]
        try simp only [List.getElem_cons_succ]
        try simp only [List.getElem_cons_zero]
        try simp only [Act.put]
        try simp only [List.setIfInBounds_toArray]
        try simp only [List.set]
        refine wpAnyH_ready (rs := [9]) (by kernel_rfl) (by simp) ?_
        refine AllReadyH.cons rfl (fun K hK => ?_) AllReadyH.nil
        go_simp
        go_wp2_with (go_at_call 173; refine (told_any _ _ _ _ _ _ _ _ _ _ _).mono ?_; rintro e W3 ⟨rfl, gg⟩)
        refine hK.out _ _ (hHeld.up gg) (fun hHeld => ?_)
        clear hK K
        have ho := ownsRow_below ho gg
        clear gg
        try simp only [Act.put]
        try simp only [List.setIfInBounds_toArray]
        try simp only [List.set]
        refine wpAnyH_take (i := 10) (v := ?v10) rfl (by kernel_rfl) (by kernel_rfl) (by kernel_rfl) (fun _ _ _ h => h) (Or.inl ⟨by kernel_rfl, ?h10⟩) hHeld ?_
        case h10 => intro u hSw; have hl := hSw.m.look keyT150 Try.underlying209 (Try.zeroValue82 u) hKw.out; simp only [kv, hfv.out, Option.getD_some] at hl; clear hSw; go_simp; try with_reducible rfl
        try simp only [List.getElem_toArray]
        try simp only [List.getElem_cons_succ]
        try simp only [List.getElem_cons_zero]
        try simp only [Act.put]
        try simp only [List.setIfInBounds_toArray]
        try simp only [List.set]
        refine wpAnyH_take (i := 11) (v := ?v11) rfl (by kernel_rfl) (by kernel_rfl) (by kernel_rfl) (fun _ _ _ h => h) (Or.inl ⟨by kernel_rfl, ?h11⟩) hHeld ?_
        case h11 => intro u hSw; (try dsimp only at hSw); go_simp; try with_reducible rfl
        try simp only [List.getElem_toArray]
        try simp only [List.getElem_cons_succ]
        try simp only [List.getElem_cons_zero]
        try simp only [Act.put]
        try simp only [List.setIfInBounds_toArray]
        try simp only [List.set]
        refine wpAnyH_ready (rs := [12]) (by kernel_rfl) (by simp) ?_
        refine AllReadyH.cons rfl (fun K hK => ?_) AllReadyH.nil
        go_simp
        refine hK.out _ _ (hHeld.up (by go_grown)) (fun hHeld => ?_)
        clear hK K
        try simp only [Act.put]
        try simp only [List.setIfInBounds_toArray]
        try simp only [List.set]
        have hgs3 := hHeld.g.size
        refine wpAnyH_ready (rs := [13]) (by kernel_rfl) (by simp) ?_
        refine AllReadyH.cons rfl (fun K hK => ?_) AllReadyH.nil
        rw [if_pos (by kernel_rfl)]
        refine wp_append_sl elPl _ _ _ rfl w.heap.size u5 ys [⟨0, xp, xs', ⟨vt, vk, vv, vs⟩⟩] (some ⟨W3.heap.size, 0, none⟩) 1 1 rfl rfl rfl (ownsRow_below ho (by go_grown)) (rs_one (enc := plE) W3 ⟨0, xp, xs', ⟨vt, vk, vv, vs⟩⟩ 215) hlen hgs3 ?_
        intro v' w' ho' hg' _
        refine hK.out _ _ (hHeld.grow hg' (fun k hk => (ho.lt k hk).1) (fun e => hcb _ e rfl) (fun e => hcm _ e rfl)) (fun hHeld => ?_)
        clear hK K hg' ho hgs3
        try simp only [Act.put]
        try simp only [List.setIfInBounds_toArray]
        try simp only [List.set]
        refine wpAnyH_take (i := 14) (v := ?v12) rfl (by kernel_rfl) (by kernel_rfl) (by kernel_rfl) (fun _ _ _ h => h) (Or.inl ⟨by kernel_rfl, ?h12⟩) hHeld ?_
        case h12 => intro u hSw; (try dsimp only at hSw); go_simp; try with_reducible rfl
        try simp only [List.getElem_toArray]
        try simp only [List.getElem_cons_succ]
        try simp only [List.getElem_cons_zero]
        try simp only [Act.put]
        try simp only [List.setIfInBounds_toArray]
        try simp only [List.set]
        refine wpAnyH_done (by kernel_rfl) ?_ _
        have ho2 : w'.ownsRow w.heap.size 215 7 v' (plF f (xs.take (j + 1))).length (flat plE (plF f (xs.take (j + 1)))) := by rw [HT2.out]; exact ho'
        have g2 := hHeld.g
        have m2 := hHeld.m
        clear hHeld ho'
        go_wp2_with fail
        go_roundw
        case rel => exact ⟨j + 1, by omega, by go_num, g2, m2, ho2⟩
        case measure => simp [intOf]; omega
      · have HT2 : Hid (plF f (xs.take (j + 1)) = ys) := by rw [HT.out]; show ys ++ [] = ys; simp
        rw [← HT2.out] at ho
        go_wp2_with fail
        go_roundw
        case rel => exact ⟨j + 1, by omega, by go_num, g, hMm, ho⟩
        case measure => simp [intOf]; omega
    · have e : j = n := by omega
      subst e
      rw [List.take_of_length_le (by rw [HN.out]; exact Nat.le_refl _)] at ho
      go_wp2_with fail
      go_ret
      exact ⟨_, rfl, g, ho⟩

end Go.Proofs.Yteebbaleejbodaa
