/-
  The program's stubsFault.
-/
import Derived.Test.YteebbaleejbodaaARMvr
import Derived.Deep.CutRange

namespace Go.Proofs.Yteebbaleejbodaa
open Go.RowKit Go.Maps
set_option linter.unusedVariables false

/-- What stubs tell, one behind the other. -/
def toldL (xs : List Spt) : List (Int × Int) := (xs.filter (fun x => decide (x.c.f = 1))).map (fun x => (x.c.p, x.c.l))
/-- Is there a stub that tells nothing? -/
def noneB (f : Int → Int → Option Value) (xs : List Spt) : Bool := xs.any (fun x => decide (x.c.f = 1) && (f x.c.p x.c.l).isNone)
def stQ (f : Int → Int → Option Value) (xs : List Spt) : Int := if noneB f xs = true then 4 else if (toldL xs).Nodup then 0 else 6

theorem mvF_row (xs : List Spt) : ∀ x y v, mvF xs x y = some v → ∃ t k u s, v = .agg #[.int .i64 t, .int .i64 k, .int .i64 u, .string s] := by
  have : ∀ (l : List Spt) (f : Int → Int → Option Value), (∀ x y v, f x y = some v → ∃ t k u s, v = .agg #[.int .i64 t, .int .i64 k, .int .i64 u, .string s]) → ∀ x y v, (l.foldl mvS f) x y = some v → ∃ t k u s, v = .agg #[.int .i64 t, .int .i64 k, .int .i64 u, .string s] := by
    intro l
    induction l with
    | nil => intro f hf; exact hf
    | cons z l ih =>
      intro f hf
      refine ih (mvS f z) (fun x y v h => ?_)
      unfold mvS at h
      split at h
      · unfold upd at h
        split at h
        · simp [rowV] at h; exact ⟨_, _, _, _, h.symm⟩
        · exact hf x y v h
      · exact hf x y v h
  exact this xs _ (fun x y v h => by cases h)

theorem toldL_snoc (xs : List Spt) (x : Spt) : toldL (xs ++ [x]) = toldL xs ++ (if x.c.f = 1 then [(x.c.p, x.c.l)] else []) := by
  unfold toldL
  rw [List.filter_append, List.map_append]
  by_cases h : x.c.f = 1 <;> simp [h]
theorem noneB_snoc (f : Int → Int → Option Value) (xs : List Spt) (x : Spt) : noneB f (xs ++ [x]) = (noneB f xs || (decide (x.c.f = 1) && (f x.c.p x.c.l).isNone)) := by simp [noneB, List.any_append]
theorem noneB_take {f : Int → Int → Option Value} {xs : List Spt} {j : Nat} (h : noneB f (xs.take j) = true) : noneB f xs = true := by
  unfold noneB at *
  rw [List.any_eq_true] at *
  obtain ⟨x, hx, h⟩ := h
  exact ⟨x, List.mem_of_mem_take hx, h⟩

structure StS (w : World) (cb mb msz : Nat) (x : Spt) (f : Int → Int → Option Value) (V : World) : Prop where
  c : SpC V cb 0 x
  g : Below w.heap.size w V
  m : MapF 250 V mb f msz
theorem StS.up {w : World} {cb mb msz : Nat} {x : Spt} {f : Int → Int → Option Value} {V W : World} (h : StS w cb mb msz x f V) (hb : Below V.heap.size V W) : StS w cb mb msz x f W :=
  ⟨h.c.below hb h.c.lt, h.g.trans (hb.mono h.g.size), h.m.below hb⟩
theorem StS.turn {w : World} {cb mb msz : Nat} {x : Spt} {f : Int → Int → Option Value} {V W : World} (h : StS w cb mb msz x f V) {tb : Nat} (ht : V.mapTurned W tb) (h1 : w.heap.size ≤ tb) (h2 : mb ≠ tb) (h3 : tb < V.heap.size) (h4 : cb ≠ tb) : StS w cb mb msz x f W := by
  have g := ht.grown
  have up : ∀ (p : Nat) (v : Value), V.cell? ⟨cb, p, none⟩ = some v → W.cell? ⟨cb, p, none⟩ = some v := fun p v h => by
    have hl := World.block_lt_of_cell? V _ h
    rw [World.cell?_of_block (w := V) (g.block cb hl (fun e => h4 (by injection e)))]; exact h
  exact ⟨⟨up _ _ h.c.c0, up _ _ h.c.c1, up _ _ h.c.c2, up _ _ h.c.c3, up _ _ h.c.c4, up _ _ h.c.c5, up _ _ h.c.c6, up _ _ h.c.c7, up _ _ h.c.c8, up _ _ h.c.c9⟩, h.g.trans (turned_below ht h1 h3), h.m.kept g (fun e => h2 (by injection e))⟩

set_option maxRecDepth 20000 in
set_option maxHeartbeats 4000000 in
theorem stubsFault_any (a : Option Addr) (xs : List Spt) (n c : Nat) (w : World) (mb msz : Nat) (f : Int → Int → Option Value) (hn : xs.length = n) (hm : n ≤ 1000) (hk : ∀ x ∈ xs, SpOk x) (hr : Rs spE 10 w a xs) (hMm : MapF 250 w mb f msz) (hrow : ∀ x y v, f x y = some v → ∃ t k u s, v = .agg #[.int .i64 t, .int .i64 k, .int .i64 u, .string s]) :
    Calls Try.prog 151 #[.slice a n c, .map (some mb)] w fun e w' => e = .returned (.int .i64 (stQ f xs)) ∧ Below w.heap.size w w' := by
  have hmm := @run_makeMap Try.prog
  have HN : Hid (xs.length = n) := hn
  have HK : Hid (∀ x ∈ xs, SpOk x) := hk
  have HR : Hid (Rs spE 10 w a xs) := hr
  have hmb := hMm.lt
  have HRow : Hid (∀ x y v, f x y = some v → ∃ t k u s, v = .agg #[.int .i64 t, .int .i64 k, .int .i64 u, .string s]) := hrow
  clear hrow
  clear hn hk hr
  go_enter Try.func151, Try.ntmps151
  go_wp2_with fail
  clear hmm
  have hMm0 := hMm.below (w' := w.alloc (.map #[] 0)) (by go_grown)
  obtain ⟨tb, htb0⟩ : ∃ tb, tb = w.heap.size := ⟨_, rfl⟩
  have htb : w.heap.size ≤ tb := by omega
  have hmt : mb < tb := by omega
  have hT0 := MapF.made 250 w
  have gT : Below w.heap.size w (w.alloc (.map #[] 0)) := by go_grown
  generalize w.alloc (.map #[] 0) = Y0 at hMm0 hT0 gT ⊢
  rw [← htb0] at hT0
  have HB : Hid (w.heap.size = tb) := htb0.symm
  rw [show (Value.map (some w.heap.size)) = .map (some tb) by rw [htb0]]
  clear htb0 hMm
  go_loopw [14, 5] (fun i k wr => ∃ (j k1 : Nat) (G : Int → Int → Option Value) (sz : Nat), j ≤ n ∧ i = .int .i64 j ∧ k = .int .i64 k1 ∧ Hid (noneB f (xs.take j) = false) ∧ Hid (∀ x y, (G x y).isSome = true ↔ (x, y) ∈ toldL (xs.take j)) ∧ Hid (k1 = (toldL (xs.take j)).length) ∧ Hid (sz = k1 ↔ (toldL (xs.take j)).Nodup) ∧ sz ≤ k1 ∧ k1 ≤ j ∧ Hid (∀ x y v, G x y = some v → ∃ cc : Nat, v = .int .i64 cc ∧ cc ≤ j) ∧ MapF 250 wr mb f msz ∧ Below w.heap.size w wr ∧ MapF 250 wr tb G sz) (fun i _ _ => n - (intOf i).toNat)
  case atStart => exact ⟨0, 0, fun _ _ => none, 0, Nat.zero_le _, rfl, rfl, rfl, fun x y => by simp [toldL], rfl, by simp [Hid, toldL], Nat.le_refl _, Nat.le_refl _, fun x y v h => (by cases h), hMm0, gT, hT0⟩
  case round =>
    clear hMm0 gT hT0
    obtain ⟨j, k1, G, sz, hj, rfl, rfl, hNo, hIn, hLe, hNd, hsz, hk1, hV, hMm, g, hG⟩ := hrel
    by_cases hlt : j < n
    · obtain ⟨x, hx⟩ := at_lt' (rs := xs) (i := j) (by rw [HN.out]; exact hlt)
      obtain ⟨b, off, rfl, X⟩ := HR.out.spot hx
      have X := X.below g X.lt
      have hok := HK.out x (List.mem_of_getElem? hx)
      have hjn : (j : Int) < (n : Int) := by omega
      have HT : Hid (xs.take (j + 1) = xs.take j ++ [x]) := take_snoc hx
      clear hx
      obtain ⟨xp, xs', xq, xf, xcp, xcl, xct, xck, xcv, xcs⟩ := x
      obtain ⟨x0, x1, x2, x3, x4, x5, x6, x7, x8, x9⟩ := X
      obtain ⟨o1, o2, o3, o4, o5, o6, o7, o8, o9⟩ := hok
      dsimp only at x0 x1 x2 x3 x4 x5 x6 x7 x8 x9 o1 o2 o3 o4 o5 o6 o7 o8 o9
      subst o7
      have hgs := g.size
      have hKw : Hid (Kw xcp xcl) := kw_small o3 o4
      go_upto_region 5 with (fail)
      generalize hY : World.alloc _ _ = Y
      have gY : Below wr.heap.size wr Y := by rw [← hY]; go_grown
      have C : SpC Y wr.heap.size 0 ⟨xp, xs', ⟨0, xf, xcp, xcl, xct, xck, xcv, xcs⟩⟩ := by rw [← hY]; exact ⟨by simp [go_sem], by simp [go_sem], by simp [go_sem], by simp [go_sem], by simp [go_sem], by simp [go_sem], by simp [go_sem], by simp [go_sem], by simp [go_sem], by simp [go_sem]⟩
      have hcb : wr.heap.size ≠ tb := by have := hG.lt; omega
      have hG := hG.below gY
      have hMm := hMm.below gY
      have g := g.trans (gY.mono g.size)
      clear hY gY x0 x1 x2 x3 x4 x5 x6 x7 x8 x9
      generalize wr.heap.size = cb at C hcb ⊢
      obtain ⟨y0, y1, y2, y3, y4, y5, y6, y7, y8, y9⟩ := C
      have C : SpC Y cb 0 ⟨xp, xs', ⟨0, xf, xcp, xcl, xct, xck, xcv, xcs⟩⟩ := ⟨y0, y1, y2, y3, y4, y5, y6, y7, y8, y9⟩
      dsimp only at y0 y1 y2 y3 y4 y5 y6 y7 y8 y9
      by_cases hf1 : xf = 1
      · subst hf1
        have HTo : Hid (toldL (xs.take (j + 1)) = toldL (xs.take j) ++ [(xcp, xcl)]) := by show _ = _; rw [HT.out, toldL_snoc]; rfl
        have HNo : Hid (noneB f (xs.take (j + 1)) = (f xcp xcl).isNone) := by show _ = _; rw [HT.out, noneB_snoc, hNo.out]; simp
        go_wp2_with fail
        refine (told_any _ _ _ _ _ _ _ _ _ _ _).mono ?_
        rintro e w2 ⟨rfl, g2⟩
        have hG := hG.below g2
        have hMm := hMm.below g2
        have C := C.below g2 C.lt
        have g := g.trans (g2.mono g.size)
        clear g2 y0 y1 y2 y3 y4 y5 y6 y7 y8 y9
        have hl := hMm.look_ok keyT150 Try.underlying209 (Try.zeroValue82 _) hKw.out
        simp only [kv] at hl
        cases hfv : f xcp xcl with
        | none =>
          have HQ : Hid (stQ f xs = 4) := by
            show _ = _
            unfold stQ
            rw [if_pos (noneB_take (j := j + 1) (by rw [HNo.out, hfv]; rfl))]
          rw [hfv] at hl
          simp only [Option.getD_none, Option.isSome_none] at hl
          clear hfv
          have hgs2 := g.size
          go_wp2_with fail
          go_ret
          exact ⟨by rw [HQ.out]; rfl, by go_grown⟩
        | some v =>
          obtain ⟨vt, vk, vv, vs, rfl⟩ := HRow.out _ _ _ hfv
          have hNo2 : Hid (noneB f (xs.take (j + 1)) = false) := by show _ = _; rw [HNo.out, hfv]; rfl
          rw [hfv] at hl
          simp only [Option.getD_some, Option.isSome_some] at hl
          clear hfv
          have hmem : ∀ {l : List (Int × Int)} {q : Int × Int}, (l ++ [q]).Nodup ↔ l.Nodup ∧ q ∉ l := by
            intro l q
            rw [List.nodup_append]
            constructor
            · rintro ⟨h1, _, h3⟩
              exact ⟨h1, fun h => h3 q h q (by simp) rfl⟩
            · rintro ⟨h1, h2⟩
              exact ⟨h1, by simp, fun a ha b hb e => h2 (by simp at hb; rw [← hb, ← e]; exact ha)⟩
          have hIn2 : ∀ u, Hid (∀ x y, (upd G xcp xcl (some u) x y).isSome = true ↔ (x, y) ∈ toldL (xs.take (j + 1))) := by
            intro u x y
            rw [HTo.out, List.mem_append]
            unfold upd
            by_cases e : x = xcp ∧ y = xcl
            · rw [if_pos e]; simp [e.1, e.2]
            · rw [if_neg e, hIn.out x y]
              constructor
              · exact .inl
              · rintro (h | h)
                · exact h
                · simp at h; exact absurd h e
          have hLe2 : Hid (k1 + 1 = (toldL (xs.take (j + 1))).length) := by show _ = _; rw [HTo.out, List.length_append, ← hLe.out]; rfl
          have hNd2 : Hid (nSz (G xcp xcl) sz = k1 + 1 ↔ (toldL (xs.take (j + 1))).Nodup) := by
            show _ ↔ _
            rw [HTo.out, hmem, ← hNd.out, ← hIn.out]
            unfold nSz
            cases hgi : (G xcp xcl).isSome <;> simp <;> omega
          have hsz2 : nSz (G xcp xcl) sz ≤ k1 + 1 := by have := nSz_le (G xcp xcl) sz; omega
          obtain ⟨cc, hcc, hcj⟩ : ∃ cc : Nat, (G xcp xcl).getD (.int .i64 0) = .int .i64 cc ∧ cc ≤ j := by
            cases hgv : G xcp xcl with
            | none => exact ⟨0, rfl, Nat.zero_le _⟩
            | some u => obtain ⟨cc, h1, h2⟩ := hV.out xcp xcl u hgv; exact ⟨cc, by rw [h1]; rfl, h2⟩
          have hV2 : Hid (∀ x y v, upd G xcp xcl (some (.int .i64 ((cc : Int) + 1))) x y = some v → ∃ cc : Nat, v = .int .i64 cc ∧ cc ≤ j + 1) := by
            intro x y v h
            unfold upd at h
            split at h
            · simp at h; exact ⟨cc + 1, by rw [← h]; simp, by omega⟩
            · obtain ⟨c1, h1, h2⟩ := hV.out x y v h; exact ⟨c1, h1, by omega⟩
          have hwc : IntKind.i64.wrap ((cc : Int) + 1) = (cc : Int) + 1 := by simp [IntKind.wrap, IntKind.bits, IntKind.signed]; omega
          clear hmem hIn hLe hNd hV HTo HNo
          have hgs2 := g.size
          go_upto_region 10 with (fail)
          generalize hY2 : World.alloc _ _ = Y2
          have gY2 : Below w2.heap.size w2 Y2 := by rw [← hY2]; go_grown
          have hG := hG.below gY2
          have hS : StS w cb mb msz ⟨xp, xs', ⟨0, 1, xcp, xcl, xct, xck, xcv, xcs⟩⟩ f Y2 := ⟨C.below gY2 C.lt, g.trans (gY2.mono g.size), hMm.below gY2⟩
          clear hY2 gY2 hMm g C
          refine wp_region_held_drew (S := fun V => StS w cb mb msz ⟨xp, xs', ⟨0, 1, xcp, xcl, xct, xck, xcv, xcs⟩⟩ f V) (by kernel_rfl) (hS.up (Below.refl _ _).drew) (fun hHeld => ?_)
          have hG := hG.below (Below.refl _ _).drew
          generalize Y2.drew = D at hHeld hG ⊢
          clear hS
          refine wpAnyH_take (i := 0) (v := ?v1) rfl (by kernel_rfl) (by kernel_rfl) (by kernel_rfl) (fun _ _ _ h => h) (Or.inl ⟨by kernel_rfl, ?h1⟩) hHeld ?_
          case h1 => intro u hSw; (try dsimp only at hSw); go_simp; try with_reducible rfl
          try simp only [List.getElem_toArray]
          try simp only [List.getElem_cons_succ]
          try simp only [List.getElem_cons_zero]
          try simp only [Act.put]
          try simp only [List.setIfInBounds_toArray]
          try simp only [List.set]
          refine wpAnyH_take (i := 1) (v := ?v2) rfl (by kernel_rfl) (by kernel_rfl) (by kernel_rfl) (fun _ _ _ h => h) (Or.inl ⟨by kernel_rfl, ?h2⟩) hHeld ?_
          case h2 => intro u hSw; obtain ⟨q0, q1, q2, q3, q4, q5, q6, q7, q8, q9⟩ := hSw.c; dsimp only at q0 q1 q2 q3 q4 q5 q6 q7 q8 q9; clear hSw; go_simp; try with_reducible rfl
          try simp only [List.getElem_toArray]
          try simp only [List.getElem_cons_succ]
          try simp only [List.getElem_cons_zero]
          try simp only [Act.put]
          try simp only [List.setIfInBounds_toArray]
          try simp only [List.set]
          refine wpAnyH_ready (rs := [2]) (by kernel_rfl) (by simp) ?_
          refine AllReadyH.cons rfl (fun K hK => ?_) AllReadyH.nil
          go_simp
          go_wp2_with (go_at_call 173; refine (told_any _ _ _ _ _ _ _ _ _ _ _).mono ?_; rintro e W3 ⟨rfl, gg⟩)
          refine hK.out _ _ (hHeld.up gg) (fun hHeld => ?_)
          clear hK K
          have hG := hG.below gg
          clear gg
          try simp only [Act.put]
          try simp only [List.setIfInBounds_toArray]
          try simp only [List.set]
          obtain ⟨v0, st, W4, e4, t4, l4, s4⟩ := hG.entry2 keyT150 keyLaw150 Try.underlying253 Try.zeroValue3 hKw.out (by omega)
          obtain ⟨W5, e5, m5, t5⟩ := s4 (.int .i64 (cc + 1))
          have l3 := hG.look keyT150 Try.underlying253 (Try.zeroValue3 _) hKw.out
          rw [hcc] at l3 l4
          simp only [kv] at e4 l3 l4
          simp only [goInt] at e4 e5
          clear s4
          have hlt4 := hG.lt
          have hne4 : mb ≠ tb := by omega
          refine wpAnyH_ready (rs := [3, 5]) (by kernel_rfl) (by simp) ?_
          refine AllReadyH.cons rfl (fun K hK => ?_) (AllReadyH.cons rfl (fun K hK => ?_) AllReadyH.nil)
          · go_simp
            refine hK.out _ _ (hHeld) (fun hHeld => ?_)
            clear hK K
            clear l3 l4
            try simp only [Act.put]
            try simp only [List.setIfInBounds_toArray]
            try simp only [List.set]
            refine wpAnyH_take (i := 4) (v := ?v3) rfl (by kernel_rfl) (by kernel_rfl) (by kernel_rfl) (fun _ _ _ h => h) (Or.inl ⟨by kernel_rfl, ?h3⟩) hHeld ?_
            case h3 => intro u hSw; (try dsimp only at hSw); go_simp; try with_reducible rfl
            try simp only [List.getElem_toArray]
            try simp only [List.getElem_cons_succ]
            try simp only [List.getElem_cons_zero]
            try simp only [Act.put]
            try simp only [List.setIfInBounds_toArray]
            try simp only [List.set]
            refine wpAnyH_ready (rs := [5]) (by kernel_rfl) (by simp) ?_
            refine AllReadyH.cons rfl (fun K hK => ?_) AllReadyH.nil
            go_simp
            refine hK.out _ _ (hHeld.turn t4 htb hne4 hlt4 hcb) (fun hHeld => ?_)
            clear hK K
            clear e4
            try simp only [Act.put]
            try simp only [List.setIfInBounds_toArray]
            try simp only [List.set]
            refine wpAnyH_take (i := 6) (v := ?v4) rfl (by kernel_rfl) (by kernel_rfl) (by kernel_rfl) (fun _ _ _ h => h) (Or.inl ⟨by kernel_rfl, ?h4⟩) hHeld ?_
            case h4 => intro u hSw; (try dsimp only at hSw); go_simp; try with_reducible rfl
            try simp only [List.getElem_toArray]
            try simp only [List.getElem_cons_succ]
            try simp only [List.getElem_cons_zero]
            try simp only [Act.put]
            try simp only [List.setIfInBounds_toArray]
            try simp only [List.set]
            refine wpAnyH_ready (rs := [7]) (by kernel_rfl) (by simp) ?_
            refine AllReadyH.cons rfl (fun K hK => ?_) AllReadyH.nil
            go_simp
            refine hK.out _ _ (hHeld.turn t5 htb hne4 (Nat.lt_of_lt_of_le hlt4 t4.grown.size) hcb) (fun hHeld => ?_)
            clear hK K
            clear e5
            try simp only [Act.put]
            try simp only [List.setIfInBounds_toArray]
            try simp only [List.set]
            refine wpAnyH_done (by kernel_rfl) ?_ _
            have hMm2 := hHeld.m
            have g := hHeld.g
            clear hHeld
            go_wp2_with fail
            go_roundw
            case rel => exact ⟨j + 1, k1 + 1, _, _, by omega, by go_num, by go_num, hNo2, hIn2 _, hLe2, hNd2, by omega, by omega, hV2, hMm2, g, m5⟩
            case measure => simp [intOf]; omega
          · go_simp
            refine hK.out _ _ (hHeld.turn t4 htb hne4 hlt4 hcb) (fun hHeld => ?_)
            clear hK K
            clear e4 l3
            try simp only [Act.put]
            try simp only [List.setIfInBounds_toArray]
            try simp only [List.set]
            refine wpAnyH_take (i := 6) (v := ?v5) rfl (by kernel_rfl) (by kernel_rfl) (by kernel_rfl) (fun _ _ _ h => h) (Or.inl ⟨by kernel_rfl, ?h5⟩) hHeld ?_
            case h5 => intro u hSw; (try dsimp only at hSw); go_simp; try with_reducible rfl
            try simp only [List.getElem_toArray]
            try simp only [List.getElem_cons_succ]
            try simp only [List.getElem_cons_zero]
            try simp only [Act.put]
            try simp only [List.setIfInBounds_toArray]
            try simp only [List.set]
            refine wpAnyH_ready (rs := [3]) (by kernel_rfl) (by simp) ?_
            refine AllReadyH.cons rfl (fun K hK => ?_) AllReadyH.nil
            go_simp
            refine hK.out _ _ (hHeld) (fun hHeld => ?_)
            clear hK K
            clear l4
            try simp only [Act.put]
            try simp only [List.setIfInBounds_toArray]
            try simp only [List.set]
            refine wpAnyH_take (i := 4) (v := ?v6) rfl (by kernel_rfl) (by kernel_rfl) (by kernel_rfl) (fun _ _ _ h => h) (Or.inl ⟨by kernel_rfl, ?h6⟩) hHeld ?_
            case h6 => intro u hSw; (try dsimp only at hSw); go_simp; try with_reducible rfl
            try simp only [List.getElem_toArray]
            try simp only [List.getElem_cons_succ]
            try simp only [List.getElem_cons_zero]
            try simp only [Act.put]
            try simp only [List.setIfInBounds_toArray]
            try simp only [List.set]
            refine wpAnyH_ready (rs := [7]) (by kernel_rfl) (by simp) ?_
            refine AllReadyH.cons rfl (fun K hK => ?_) AllReadyH.nil
            go_simp
            refine hK.out _ _ (hHeld.turn t5 htb hne4 (Nat.lt_of_lt_of_le hlt4 t4.grown.size) hcb) (fun hHeld => ?_)
            clear hK K
            clear e5
            try simp only [Act.put]
            try simp only [List.setIfInBounds_toArray]
            try simp only [List.set]
            refine wpAnyH_done (by kernel_rfl) ?_ _
            have hMm2 := hHeld.m
            have g := hHeld.g
            clear hHeld
            go_wp2_with fail
            go_roundw
            case rel => exact ⟨j + 1, k1 + 1, _, _, by omega, by go_num, by go_num, hNo2, hIn2 _, hLe2, hNd2, by omega, by omega, hV2, hMm2, g, m5⟩
            case measure => simp [intOf]; omega
      · have HTo : Hid (toldL (xs.take (j + 1)) = toldL (xs.take j)) := by show _ = _; rw [HT.out, toldL_snoc, if_neg hf1, List.append_nil]
        have hNo2 : Hid (noneB f (xs.take (j + 1)) = false) := by show _ = _; rw [HT.out, noneB_snoc, hNo.out]; simp [hf1]
        have d1 : (xf != 1) = true := by simpa using hf1
        have hIn2 : Hid (∀ x y, (G x y).isSome = true ↔ (x, y) ∈ toldL (xs.take (j + 1))) := by rw [HTo.out]; exact hIn
        have hLe2 : Hid (k1 = (toldL (xs.take (j + 1))).length) := by rw [HTo.out]; exact hLe
        have hNd2 : Hid (sz = k1 ↔ (toldL (xs.take (j + 1))).Nodup) := by rw [HTo.out]; exact hNd
        have hV2 : Hid (∀ x y v, G x y = some v → ∃ cc : Nat, v = .int .i64 cc ∧ cc ≤ j + 1) := fun x y v h => by obtain ⟨cc, h1, h2⟩ := hV.out x y v h; exact ⟨cc, h1, by omega⟩
        clear HTo hf1
        go_wp2_with fail
        go_roundw
        case rel => exact ⟨j + 1, k1, G, sz, by omega, by go_num, rfl, hNo2, hIn2, hLe2, hNd2, by omega, by omega, hV2, hMm, g, hG⟩
        case measure => simp [intOf]; omega
    · have e : j = n := by omega
      subst e
      rw [List.take_of_length_le (by rw [HN.out]; exact Nat.le_refl _)] at hNo hNd
      have hln := hG.len Try.underlying253 3
      by_cases hd : sz = k1
      · have HQ : Hid (stQ f xs = 0) := by show _ = _; unfold stQ; rw [if_neg (by rw [hNo.out]; decide), if_pos (hNd.out.1 hd)]
        have d : decide ((sz : Int) < (k1 : Int)) = false := by simp; omega
        go_wp2_with fail
        go_ret
        exact ⟨by rw [HQ.out]; rfl, g⟩
      · have HQ : Hid (stQ f xs = 6) := by show _ = _; unfold stQ; rw [if_neg (by rw [hNo.out]; decide), if_neg (fun h => hd (hNd.out.2 h))]
        have d : (sz : Int) < (k1 : Int) := by omega
        go_wp2_with fail
        go_ret
        exact ⟨by rw [HQ.out]; rfl, g⟩

end Go.Proofs.Yteebbaleejbodaa
