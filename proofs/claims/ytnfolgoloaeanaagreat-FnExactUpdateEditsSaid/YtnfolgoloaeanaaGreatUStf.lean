/-
  The program's stubsFault.
-/
import Derived.Test.YtnfolgoloaeanaaGreatUPgb
import Derived.Deep.CutRange

namespace Go.Proofs.YtnfolgoloaeanaaGreat
open Go.RowKit Go.Maps
set_option linter.unusedVariables false

/-- What stubs tell, one behind the other. -/
def toldL (xs : List Spt) : List (Int × Int) := (xs.filter (fun x => decide (x.c.f = 1))).map (fun x => (x.c.p, x.c.l))
/-- Is there a stub that tells nothing? -/
def noneB (f : Int → Int → Option Value) (xs : List Spt) : Bool := xs.any (fun x => decide (x.c.f = 1) && (f x.c.p x.c.l).isNone)
def stQ (f : Int → Int → Option Value) (xs : List Spt) : Int := if noneB f xs = true then 4 else if (toldL xs).Nodup then 0 else 6

theorem mvF_row (xs : List Spt) : ∀ x y v, mvF xs x y = some v → ∃ t k u s, v = .agg #[.int .i64 t, .int .i64 k, .int .i64 u, .string s] := by
  have : ∀ (l : List Spt) (f : Int → Int → Option Value), (∀ x y v, f x y = some v → ∃ t k u s, v = .agg #[.int .i64 t, .int .i64 k, .int .i64 u, .string s]) → ∀ x y v, (l.foldl mvS f) x y = some v → ∃ t k u s, v = .agg #[.int .i64 t, .int .i64 k, .int .i64 u, .string s] := by
    intro l
    induction l with
    | nil => intro f hf; exact hf
    | cons z l ih =>
      intro f hf
      refine ih (mvS f z) (fun x y v h => ?_)
      unfold mvS at h
      split at h
      · unfold upd at h
        split at h
        · simp [rowV] at h; exact ⟨_, _, _, _, h.symm⟩
        · exact hf x y v h
      · exact hf x y v h
  exact this xs _ (fun x y v h => by cases h)

theorem toldL_snoc (xs : List Spt) (x : Spt) : toldL (xs ++ [x]) = toldL xs ++ (if x.c.f = 1 then [(x.c.p, x.c.l)] else []) := by
  unfold toldL
  rw [List.filter_append, List.map_append]
  by_cases h : x.c.f = 1 <;> simp [h]
theorem noneB_snoc (f : Int → Int → Option Value) (xs : List Spt) (x : Spt) : noneB f (xs ++ [x]) = (noneB f xs || (decide (x.c.f = 1) && (f x.c.p x.c.l).isNone)) := by simp [noneB, List.any_append]
theorem noneB_take {f : Int → Int → Option Value} {xs : List Spt} {j : Nat} (h : noneB f (xs.take j) = true) : noneB f xs = true := by
  unfold noneB at *
  rw [List.any_eq_true] at *
  obtain ⟨x, hx, h⟩ := h
  exact ⟨x, List.mem_of_mem_take hx, h⟩

structure StS (w : World) (cb mb msz : Nat) (x : Spt) (f : Int → Int → Option Value) (V : World) : Prop where
  c : SpC V cb 0 x
  g : Below w.heap.size w V
  m : MapF 84 V mb f msz
theorem StS.up {w : World} {cb mb msz : Nat} {x : Spt} {f : Int → Int → Option Value} {V W : World} (h : StS w cb mb msz x f V) (hb : Below V.heap.size V W) : StS w cb mb msz x f W :=
  ⟨h.c.below hb h.c.lt, h.g.trans (hb.mono h.g.size), h.m.below hb⟩
theorem StS.turn {w : World} {cb mb msz : Nat} {x : Spt} {f : Int → Int → Option Value} {V W : World} (h : StS w cb mb msz x f V) {tb : Nat} (ht : V.mapTurned W tb) (h1 : w.heap.size ≤ tb) (h2 : mb ≠ tb) (h3 : tb < V.heap.size) (h4 : cb ≠ tb) : StS w cb mb msz x f W := by
  have g := ht.grown
  have up : ∀ (p : Nat) (v : Value), V.cell? ⟨cb, p, none⟩ = some v → W.cell? ⟨cb, p, none⟩ = some v := fun p v h => by
    have hl := World.block_lt_of_cell? V _ h
    rw [World.cell?_of_block (w := V) (g.block cb hl (fun e => h4 (by injection e)))]; exact h
  exact ⟨⟨up _ _ h.c.c0, up _ _ h.c.c1, up _ _ h.c.c2, up _ _ h.c.c3, up _ _ h.c.c4, up _ _ h.c.c5, up _ _ h.c.c6, up _ _ h.c.c7, up _ _ h.c.c8, up _ _ h.c.c9⟩, h.g.trans (turned_below ht h1 h3), h.m.kept g (fun e => h2 (by injection e))⟩

set_option maxRecDepth 20000 in
set_option maxHeartbeats 4000000 in
theorem stubsFault_any (a : Option Addr) (xs : List Spt) (n c : Nat) (w : World) (mb msz : Nat) (f : Int → Int → Option Value) (hn : xs.length = n) (hm : n ≤ 1000) (hk : ∀ x ∈ xs, SpOk x) (hr : Rs spE 10 w a xs) (hMm : MapF 84 w mb f msz) (hrow : ∀ x y v, f x y = some v → ∃ t k u s, v = .agg #[.int .i64 t, .int .i64 k, .int .i64 u, .string s]) :
    Calls Tryz.prog 117 #[.slice a n c, .map (some mb)] w fun e w' => e = .returned (.int .i64 (stQ f xs)) ∧ Below w.heap.size w w' := by
  have hmm := @run_makeMap Tryz.prog
  have HN : Hid (xs.length = n) := hn
  have HK : Hid (∀ x ∈ xs, SpOk x) := hk
  have HR : Hid (Rs spE 10 w a xs) := hr
  have hmb := hMm.lt
  have HRow : Hid (∀ x y v, f x y = some v → ∃ t k u s, v = .agg #[.int .i64 t, .int .i64 k, .int .i64 u, .string s]) := hrow
  clear hrow
  clear hn hk hr
  go_enter Tryz.func117, Tryz.ntmps117
  go_wp2_with fail
  clear hmm
  have hMm0 := hMm.below (w' := w.alloc (.map #[] 0)) (by go_grown)
  obtain ⟨tb, htb0⟩ : ∃ tb, tb = w.heap.size := ⟨_, rfl⟩
  have htb : w.heap.size ≤ tb := by omega
  have hmt : mb < tb := by omega
  have hT0 := MapF.made 84 w
  have gT : Below w.heap.size w (w.alloc (.map #[] 0)) := by go_grown
  generalize w.alloc (.map #[] 0) = Y0 at hMm0 hT0 gT ⊢
  rw [← htb0] at hT0
  have HB : Hid (w.heap.size = tb) := htb0.symm
  rw [show (Value.map (some w.heap.size)) = .map (some tb) by rw [htb0]]
  clear htb0 hMm
  go_loopw [14, 5] (fun i k wr => ∃ (j k1 : Nat) (G : Int → Int → Option Value) (sz : Nat), j ≤ n ∧ i = .int .i64 j ∧ k = .int .i64 k1 ∧ Hid (noneB f (xs.take j) = false) ∧ Hid (∀ x y, (G x y).isSome = true ↔ (x, y) ∈ toldL (xs.take j)) ∧ Hid (k1 = (toldL (xs.take j)).length) ∧ Hid (sz = k1 ↔ (toldL (xs.take j)).Nodup) ∧ sz ≤ k1 ∧ k1 ≤ j ∧ Hid (∀ x y v, G x y = some v → ∃ cc : Nat, v = .int .i64 cc ∧ cc ≤ j) ∧ MapF 84 wr mb f msz ∧ Below w.heap.size w wr ∧ MapF 84 wr tb G sz) (fun i _ _ => n - (intOf i).toNat)
  case atStart => exact ⟨0, 0, fun _ _ => none, 0, Nat.zero_le _, rfl, rfl, rfl, fun x y => by simp [toldL], rfl, by simp [Hid, toldL], Nat.le_refl _, Nat.le_refl _, fun x y v h => (by cases h), hMm0, gT, hT0⟩
  case round =>
    clear hMm0 gT hT0
    obtain ⟨j, k1, G, sz, hj, rfl, rfl, hNo, hIn, hLe, hNd, hsz, hk1, hV, hMm, g, hG⟩ := hrel
    by_cases hlt : j < n
    · obtain ⟨x, hx⟩ := at_lt' (rs := xs) (i := j) (by rw [HN.out]; exact hlt)
      obtain ⟨b, off, rfl, X⟩ := HR.out.spot hx
      have X := X.below g X.lt
      have hok := HK.out x (List.mem_of_getElem? hx)
      have hjn : (j : Int) < (n : Int) := by omega
      have HT : Hid (xs.take (j + 1) = xs.take j ++ [x]) := take_snoc hx
      clear hx
      obtain ⟨xp, xs', xq, xf, xcp, xcl, xct, xck, xcv, xcs⟩ := x
      obtain ⟨x0, x1, x2, x3, x4, x5, x6, x7, x8, x9⟩ := X
      obtain ⟨o1, o2, o3, o4, o5, o6, o7, o8, o9⟩ := hok
      dsimp only at x0 x1 x2 x3 x4 x5 x6 x7 x8 x9 o1 o2 o3 o4 o5 o6 o7 o8 o9
      subst o7
      have hgs := g.size
      have hKw : Hid (Kw xcp xcl) := kw_small o3 o4
      go_upto_region 5 with (fail)
      generalize hY : World.alloc _ _ = Y
      have gY : Below wr.heap.size wr Y := by rw [← hY]; go_grown
      have C : SpC Y wr.heap.size 0 ⟨xp, xs', ⟨0, xf, xcp, xcl, xct, xck, xcv, xcs⟩⟩ := by rw [← hY]; exact ⟨by simp [go_sem], by simp [go_sem], by simp [go_sem], by simp [go_sem], by simp [go_sem], by simp [go_sem], by simp [go_sem], by simp [go_sem], by simp [go_sem], by simp [go_sem]⟩
      have hcb : wr.heap.size ≠ tb := by have := hG.lt; omega
      have hG := hG.below gY
      have hMm := hMm.below gY
      have g := g.trans (gY.mono g.size)
      clear hY gY x0 x1 x2 x3 x4 x5 x6 x7 x8 x9
      generalize wr.heap.size = cb at C hcb ⊢
      obtain ⟨y0, y1, y2, y3, y4, y5, y6, y7, y8, y9⟩ := C
      have C : SpC Y cb 0 ⟨xp, xs', ⟨0, xf, xcp, xcl, xct, xck, xcv, xcs⟩⟩ := ⟨y0, y1, y2, y3, y4, y5, y6, y7, y8, y9⟩
      dsimp only at y0 y1 y2 y3 y4 y5 y6 y7 y8 y9
      by_cases hf1 : xf = 1
      · subst hf1
        have HTo : Hid (toldL (xs.take (j + 1)) = toldL (xs.take j) ++ [(xcp, xcl)]) := by show _ = _; rw [HT.out, toldL_snoc]; rfl
        have HNo : Hid (noneB f (xs.take (j + 1)) = (f xcp xcl).isNone) := by show _ = _; rw [HT.out, noneB_snoc, hNo.out]; simp
        go_wp2_with fail
        refine (told_any _ _ _ _ _ _ _ _ _ _ _).mono ?_
        rintro e w2 ⟨rfl, g2⟩
        have hG := hG.below g2
        have hMm := hMm.below g2
        have C := C.below g2 C.lt
        have g := g.trans (g2.mono g.size)
        clear g2 y0 y1 y2 y3 y4 y5 y6 y7 y8 y9
        have hl := hMm.look_ok keyT150 Tryz.underlying164 (Tryz.zeroValue26 _) hKw.out
        simp only [kv] at hl
        cases hfv : f xcp xcl with
        | none =>
          have HQ : Hid (stQ f xs = 4) := by
            show _ = _
            unfold stQ
            rw [if_pos (noneB_take (j := j + 1) (by rw [HNo.out, hfv]; rfl))]
          rw [hfv] at hl
          simp only [Option.getD_none, Option.isSome_none] at hl
          clear hfv
          have hgs2 := g.size
          go_wp2_with fail
          go_ret
          exact ⟨by rw [HQ.out]; rfl, by go_grown⟩
        | some v =>
          obtain ⟨vt, vk, vv, vs, rfl⟩ := HRow.out _ _ _ hfv
          have hNo2 : Hid (noneB f (xs.take (j + 1)) = false) := by show _ = _; rw [HNo.out, hfv]; rfl
          rw [hfv] at hl
          simp only [Option.getD_some, Option.isSome_some] at hl
          clear hfv
          have hmem : ∀ {l : List (Int × Int)} {q : Int × Int}, (l ++ [q]).Nodup ↔ l.Nodup ∧ q ∉ l := by
            intro l q
            rw [List.nodup_append]
            constructor
            · rintro ⟨h1, _, h3⟩
              exact ⟨h1, fun h => h3 q h q (by simp) rfl⟩
            · rintro ⟨h1, h2⟩
              exact ⟨h1, by simp, fun a ha b hb e => h2 (by simp at hb; rw [← hb, ← e]; exact ha)⟩
          have hIn2 : ∀ u, Hid (∀ x y, (upd G xcp xcl (some u) x y).isSome = true ↔ (x, y) ∈ toldL (xs.take (j + 1))) := by
            intro u x y
            rw [HTo.out, List.mem_append]
            unfold upd
            by_cases e : x = xcp ∧ y = xcl
            · rw [if_pos e]; simp [e.1, e.2]
            · rw [if_neg e, hIn.out x y]
              constructor
              · exact .inl
              · rintro (h | h)
                · exact h
                · simp at h; exact absurd h e
          have hLe2 : Hid (k1 + 1 = (toldL (xs.take (j + 1))).length) := by show _ = _; rw [HTo.out, List.length_append, ← hLe.out]; rfl
          have hNd2 : Hid (nSz (G xcp xcl) sz = k1 + 1 ↔ (toldL (xs.take (j + 1))).Nodup) := by
            show _ ↔ _
            rw [HTo.out, hmem, ← hNd.out, ← hIn.out]
            unfold nSz
            cases hgi : (G xcp xcl).isSome <;> simp <;> omega
          have hsz2 : nSz (G xcp xcl) sz ≤ k1 + 1 := by have := nSz_le (G xcp xcl) sz; omega
          obtain ⟨cc, hcc, hcj⟩ : ∃ cc : Nat, (G xcp xcl).getD (.int .i64 0) = .int .i64 cc ∧ cc ≤ j := by
            cases hgv : G xcp xcl with
            | none => exact ⟨0, rfl, Nat.zero_le _⟩
            | some u => obtain ⟨cc, h1, h2⟩ := hV.out xcp xcl u hgv; exact ⟨cc, by rw [h1]; rfl, h2⟩
          have hV2 : Hid (∀ x y v, upd G xcp xcl (some (.int .i64 ((cc : Int) + 1))) x y = some v → ∃ cc : Nat, v = .int .i64 cc ∧ cc ≤ j + 1) := by
            intro x y v h
            unfold upd at h
            split at h
            · simp at h; exact ⟨cc + 1, by rw [← h]; simp, by omega⟩
            · obtain ⟨c1, h1, h2⟩ := hV.out x y v h; exact ⟨c1, h1, by omega⟩
          have hwc : IntKind.i64.wrap ((cc : Int) + 1) = (cc : Int) + 1 := by simp [IntKind.wrap, IntKind.bits, IntKind.signed]; omega
          clear hmem hIn hLe hNd hV HTo HNo
          have hgs2 := g.size
          go_upto_region 10 with (fail)
          generalize hY2 : World.alloc _ _ = Y2
          have gY2 : Below w2.heap.size w2 Y2 := by rw [← hY2]; go_grown
          have hG := hG.below gY2
          have hS : StS w cb mb msz ⟨xp, xs', ⟨0, 1, xcp, xcl, xct, xck, xcv, xcs⟩⟩ f Y2 := ⟨C.below gY2 C.lt, g.trans (gY2.mono g.size), hMm.below gY2⟩
          clear hY2 gY2 hMm g C
          refine wp_region_held_drew (S := fun V => StS w cb mb msz ⟨xp, xs', ⟨0, 1, xcp, xcl, xct, xck, xcv, xcs⟩⟩ f V) (by kernel_rfl) (hS.up (Below.refl _ _).drew) (fun hHeld => ?_)
          have hG := hG.below (Below.refl _ _).drew
          generalize Y2.drew = D at hHeld hG ⊢
          clear hS
          refine tkH (i := 0) (v := ?v1) rfl (Or.inl ⟨by kernel_rfl, ?h1⟩) hHeld ?_
          case h1 => intro u hSw; (try dsimp only at hSw); go_simp; try with_reducible rfl
          try simp only [Act.put, tdy]
          refine tkH (i := 1) (v := ?v2) rfl (Or.inl ⟨by kernel_rfl, ?h2⟩) hHeld ?_
          case h2 => intro u hSw; obtain ⟨q0, q1, q2, q3, q4, q5, q6, q7, q8, q9⟩ := hSw.c; dsimp only at q0 q1 q2 q3 q4 q5 q6 q7 q8 q9; clear hSw; go_simp; try with_reducible rfl
          try simp only [Act.put, tdy]
          refine wpAnyH_ready (rs := [2]) (by kernel_rfl) (by simp) ?_
          refine AllReadyH.cons rfl (fun K hK => ?_) AllReadyH.nil
          go_simp
          go_wp2_with (go_at_call 131; refine (told_any _ _ _ _ _ _ _ _ _ _ _).mono ?_; rintro e W3 ⟨rfl, gg⟩)
          refine hK.out _ _ (hHeld.up gg) (fun hHeld => ?_)
          clear hK K
          have hG := hG.below gg
          clear gg
          try simp only [Act.put, tdy]
          obtain ⟨v0, st, W4, e4, t4, l4, s4⟩ := hG.entry2 keyT150 keyLaw150 Tryz.underlying228 Tryz.zeroValue3 hKw.out (by omega)
          obtain ⟨W5, e5, m5, t5⟩ := s4 (.int .i64 (cc + 1))
          have l3 := hG.look keyT150 Tryz.underlying228 (Tryz.zeroValue3 _) hKw.out
          rw [hcc] at l3 l4
          simp only [kv] at e4 l3 l4
          simp only [goInt] at e4 e5
          clear s4
          have hlt4 := hG.lt
          have hne4 : mb ≠ tb := by omega
          refine wpAnyH_ready (rs := [3, 5]) (by kernel_rfl) (by simp) ?_
          refine AllReadyH.cons rfl (fun K hK => ?_) (AllReadyH.cons rfl (fun K hK => ?_) AllReadyH.nil)
          · go_simp
            refine hK.out _ _ (hHeld) (fun hHeld => ?_)
            clear hK K
            clear l3 l4
            try simp only [Act.put, tdy]
            refine tkH (i := 4) (v := ?v3) rfl (Or.inl ⟨by kernel_rfl, ?h3⟩) hHeld ?_
            case h3 => intro u hSw; (try dsimp only at hSw); go_simp; try with_reducible rfl
            try simp only [Act.put, tdy]
            refine wpAnyH_ready (rs := [5]) (by kernel_rfl) (by simp) ?_
            refine AllReadyH.cons rfl (fun K hK => ?_) AllReadyH.nil
            go_simp
            refine hK.out _ _ (hHeld.turn t4 htb hne4 hlt4 hcb) (fun hHeld => ?_)
            clear hK K
            clear e4
            try simp only [Act.put, tdy]
            refine tkH (i := 6) (v := ?v4) rfl (Or.inl ⟨by kernel_rfl, ?h4⟩) hHeld ?_
            case h4 => intro u hSw; (try dsimp only at hSw); go_simp; try with_reducible rfl
            try simp only [Act.put, tdy]
            refine wpAnyH_ready (rs := [7]) (by kernel_rfl) (by simp) ?_
            refine AllReadyH.cons rfl (fun K hK => ?_) AllReadyH.nil
            go_simp
            refine hK.out _ _ (hHeld.turn t5 htb hne4 (Nat.lt_of_lt_of_le hlt4 t4.grown.size) hcb) (fun hHeld => ?_)
            clear hK K
            clear e5
            try simp only [Act.put, tdy]
            refine wpAnyH_done (by kernel_rfl) ?_ _
            have hMm2 := hHeld.m
            have g := hHeld.g
            clear hHeld
            go_wp2_with fail
            go_roundw
            case rel => exact ⟨j + 1, k1 + 1, _, _, by omega, by go_num, by go_num, hNo2, hIn2 _, hLe2, hNd2, by omega, by omega, hV2, hMm2, g, m5⟩
            case measure => simp [intOf]; omega
          · go_simp
            refine hK.out _ _ (hHeld.turn t4 htb hne4 hlt4 hcb) (fun hHeld => ?_)
            clear hK K
            clear e4 l3
            try simp only [Act.put, tdy]
            refine tkH (i := 6) (v := ?v5) rfl (Or.inl ⟨by kernel_rfl, ?h5⟩) hHeld ?_
            case h5 => intro u hSw; (try dsimp only at hSw); go_simp; try with_reducible rfl
            try simp only [Act.put, tdy]
            refine wpAnyH_ready (rs := [3]) (by kernel_rfl) (by simp) ?_
            refine AllReadyH.cons rfl (fun K hK => ?_) AllReadyH.nil
            go_simp
            refine hK.out _ _ (hHeld) (fun hHeld => ?_)
            clear hK K
            clear l4
            try simp only [Act.put, tdy]
            refine tkH (i := 4) (v := ?v6) rfl (Or.inl ⟨by kernel_rfl, ?h6⟩) hHeld ?_
            case h6 => intro u hSw; (try dsimp only at hSw); go_simp; try with_reducible rfl
            try simp only [Act.put, tdy]
            refine wpAnyH_ready (rs := [7]) (by kernel_rfl) (by simp) ?_
            refine AllReadyH.cons rfl (fun K hK => ?_) AllReadyH.nil
            go_simp
            refine hK.out _ _ (hHeld.turn t5 htb hne4 (Nat.lt_of_lt_of_le hlt4 t4.grown.size) hcb) (fun hHeld => ?_)
            clear hK K
            clear e5
            try simp only [Act.put, tdy]
            refine wpAnyH_done (by kernel_rfl) ?_ _
            have hMm2 := hHeld.m
            have g := hHeld.g
            clear hHeld
            go_wp2_with fail
            go_roundw
            case rel => exact ⟨j + 1, k1 + 1, _, _, by omega, by go_num, by go_num, hNo2, hIn2 _, hLe2, hNd2, by omega, by omega, hV2, hMm2, g, m5⟩
            case measure => simp [intOf]; omega
      · have HTo : Hid (toldL (xs.take (j + 1)) = toldL (xs.take j)) := by show _ = _; rw [HT.out, toldL_snoc, if_neg hf1, List.append_nil]
        have hNo2 : Hid (noneB f (xs.take (j + 1)) = false) := by show _ = _; rw [HT.out, noneB_snoc, hNo.out]; simp [hf1]
        have d1 : (xf != 1) = true := by simpa using hf1
        have hIn2 : Hid (∀ x y, (G x y).isSome = true ↔ (x, y) ∈ toldL (xs.take (j + 1))) := by rw [HTo.out]; exact hIn
        have hLe2 : Hid (k1 = (toldL (xs.take (j + 1))).length) := by rw [HTo.out]; exact hLe
        have hNd2 : Hid (sz = k1 ↔ (toldL (xs.take (j + 1))).Nodup) := by rw [HTo.out]; exact hNd
        have hV2 : Hid (∀ x y v, G x y = some v → ∃ cc : Nat, v = .int .i64 cc ∧ cc ≤ j + 1) := fun x y v h => by obtain ⟨cc, h1, h2⟩ := hV.out x y v h; exact ⟨cc, h1, by omega⟩
        clear HTo hf1
        go_wp2_with fail
        go_roundw
        case rel => exact ⟨j + 1, k1, G, sz, by omega, by go_num, rfl, hNo2, hIn2, hLe2, hNd2, by omega, by omega, hV2, hMm, g, hG⟩
        case measure => simp [intOf]; omega
    · have e : j = n := by omega
      subst e
      rw [List.take_of_length_le (by rw [HN.out]; exact Nat.le_refl _)] at hNo hNd
      have hln := hG.len Tryz.underlying228 3
      by_cases hd : sz = k1
      · have HQ : Hid (stQ f xs = 0) := by show _ = _; unfold stQ; rw [if_neg (by rw [hNo.out]; decide), if_pos (hNd.out.1 hd)]
        have d : decide ((sz : Int) < (k1 : Int)) = false := by simp; omega
        go_wp2_with fail
        go_ret
        exact ⟨by rw [HQ.out]; rfl, g⟩
      · have HQ : Hid (stQ f xs = 6) := by show _ = _; unfold stQ; rw [if_neg (by rw [hNo.out]; decide), if_neg (fun h => hd (hNd.out.2 h))]
        have d : (sz : Int) < (k1 : Int) := by omega
        go_wp2_with fail
        go_ret
        exact ⟨by rw [HQ.out]; rfl, g⟩

open Go.RowKit Go.Maps

/-- An answer of FindRow: a row and its place. -/
structure Plc where
  q : Int
  p : Int
  s : Int
  r : Rw
def plE (x : Plc) : List Value := [.int .i64 x.q, .int .i64 x.p, .int .i64 x.s, .int .i64 x.r.t, .int .i64 x.r.k, .int .i64 x.r.v, .string x.r.s]
theorem plE_len (x : Plc) : (plE x).length = 7 := rfl
theorem infoL' : (Tryz.prog.info? 38).map (fun i => (i.zero, i.size, i.bytes)) = some (some (.agg #[.int .i64 0, .int .i64 0, .int .i64 0, .int .i64 0, .int .i64 0, .int .i64 0, .string ⟨#[]⟩]), 7, 64) := by kernel_rfl
theorem infoL : ∃ i, Tryz.prog.info? 38 = some i ∧ i.zero = some (.agg #[.int .i64 0, .int .i64 0, .int .i64 0, .int .i64 0, .int .i64 0, .int .i64 0, .string ⟨#[]⟩]) ∧ i.size = 7 ∧ i.bytes = 64 := by
  have h := infoL'
  cases hi : Tryz.prog.info? 38 with
  | none => rw [hi] at h; simp at h
  | some i => rw [hi] at h; simp at h; exact ⟨i, rfl, h.1, h.2.1, h.2.2⟩
theorem elPl : ElT 167 38 plE 7 64 where
  und := Tryz.underlying167
  inf := by obtain ⟨i, h1, h2, h3, h4⟩ := infoL; exact ⟨i, _, h1, h2, h3, h4, rfl⟩
  len := plE_len
  one := by intro x u hu; simp [plE] at hu; rcases hu with rfl | rfl | rfl | rfl | rfl | rfl | rfl <;> rfl
  pos := by decide
  few := by decide

/-- The row of a value. -/
def rwOf : Option Value → Rw
  | some (.agg cs) => (match cs.toList with | [.int _ t, .int _ k, .int _ v, .string s] => ⟨t, k, v, s⟩ | _ => ⟨0, 0, 0, ⟨#[]⟩⟩)
  | _ => ⟨0, 0, 0, ⟨#[]⟩⟩
/-- What is seen of a cell. -/
def see1 (f : Int → Int → Option Value) (x : Spt) : List Plc :=
  if x.c.f = 0 then [⟨0, x.p, x.s, ⟨x.c.t, x.c.k, x.c.v, x.c.s⟩⟩] else if x.c.f = 1 then [⟨0, x.p, x.s, rwOf (f x.c.p x.c.l)⟩] else []
def plF (f : Int → Int → Option Value) (xs : List Spt) : List Plc := xs.flatMap (see1 f)
theorem plF_snoc (f : Int → Int → Option Value) (xs : List Spt) (x : Spt) : plF f (xs ++ [x]) = plF f xs ++ see1 f x := by simp [plF]
theorem plF_len (f : Int → Int → Option Value) (xs : List Spt) : (plF f xs).length ≤ xs.length := by
  induction xs with
  | nil => simp [plF]
  | cons x xs ih =>
    have : (see1 f x).length ≤ 1 := by unfold see1; split <;> (try split) <;> simp
    simp only [plF, List.flatMap_cons, List.length_append, List.length_cons] at ih ⊢
    omega

theorem rs_one {α : Type} {enc : α → List Value} {k : Nat} (w : World) (y : α) (t : TypeId) : Rs enc k (w.alloc (.cells (enc y).toArray t)) (some ⟨w.heap.size, 0, none⟩) [y] := by
  refine .inr ⟨_, 0, rfl, fun i z hz j u hu => ?_⟩
  have hi : i = 0 := by
    have := (List.getElem?_eq_some_iff.1 hz).1
    simp at this; exact this
  subst hi
  simp at hz
  subst hz
  have := cells_new w (enc y) t j u hu
  have ea : (⟨w.heap.size, 0, none⟩ : Addr).add j = ⟨w.heap.size, j, none⟩ := by unfold Addr.add; split <;> simp_all
  rw [ea] at this
  simpa using this

theorem StS.grow {w : World} {cb mb msz : Nat} {x : Spt} {f : Int → Int → Option Value} {V W : World} (h : StS w cb mb msz x f V) {row : Option Nat} (hg : V.grownBy W row) (h1 : ∀ k, row = some k → w.heap.size ≤ k) (h2 : row ≠ some cb) (h3 : row ≠ some mb) : StS w cb mb msz x f W := by
  have up : ∀ (p : Nat) (v : Value), V.cell? ⟨cb, p, none⟩ = some v → W.cell? ⟨cb, p, none⟩ = some v := fun p v h => by
    have hl := World.block_lt_of_cell? V _ h
    rw [World.cell?_of_block (w := V) (hg.block cb hl (fun e => h2 e.symm))]; exact h
  exact ⟨⟨up _ _ h.c.c0, up _ _ h.c.c1, up _ _ h.c.c2, up _ _ h.c.c3, up _ _ h.c.c4, up _ _ h.c.c5, up _ _ h.c.c6, up _ _ h.c.c7, up _ _ h.c.c8, up _ _ h.c.c9⟩, Below.grown h.g hg h.g.size h1, h.m.kept hg (fun e => h3 e.symm)⟩

set_option maxRecDepth 20000 in
set_option maxHeartbeats 4000000 in
theorem seenRows_any (a : Option Addr) (xs : List Spt) (n c : Nat) (w : World) (mb msz : Nat) (f : Int → Int → Option Value) (hn : xs.length = n) (hm : n ≤ 1000) (hk : ∀ x ∈ xs, SpOk x) (hr : Rs spE 10 w a xs) (hMm : MapF 84 w mb f msz) (hrow : ∀ x y v, f x y = some v → ∃ t k u s, v = .agg #[.int .i64 t, .int .i64 k, .int .i64 u, .string s]) (hno : noneB f xs = false) :
    Calls Tryz.prog 118 #[.slice a n c, .map (some mb)] w fun e w' => ∃ v, e = .returned v ∧ Below w.heap.size w w' ∧ w'.ownsRow w.heap.size 38 7 v (plF f xs).length (flat plE (plF f xs)) := by
  have HN : Hid (xs.length = n) := hn
  have HK : Hid (∀ x ∈ xs, SpOk x) := hk
  have HR : Hid (Rs spE 10 w a xs) := hr
  have HRow : Hid (∀ x y v, f x y = some v → ∃ t k u s, v = .agg #[.int .i64 t, .int .i64 k, .int .i64 u, .string s]) := hrow
  have HNo : Hid (∀ x ∈ xs, x.c.f = 1 → f x.c.p x.c.l ≠ none) := by
    intro x hx h1 h2
    unfold noneB at hno
    rw [List.any_eq_false] at hno
    exact hno x hx (by simp [h1, h2])
  have hmb := hMm.lt
  clear hn hk hr hrow hno
  go_enter Tryz.func118, Tryz.ntmps118
  go_wp2_with fail
  go_loopw [10, 5] (fun i v wr => ∃ j : Nat, j ≤ n ∧ i = .int .i64 j ∧ Below w.heap.size w wr ∧ MapF 84 wr mb f msz ∧ wr.ownsRow w.heap.size 38 7 v (plF f (xs.take j)).length (flat plE (plF f (xs.take j)))) (fun i _ _ => n - (intOf i).toNat)
  case atStart => exact ⟨0, Nat.zero_le _, rfl, Below.refl _ _, hMm, ownsRow_nil _ _ _ _⟩
  case round =>
    clear hMm
    obtain ⟨j, hj, rfl, g, hMm, ho⟩ := hrel
    by_cases hlt : j < n
    · obtain ⟨x, hx⟩ := at_lt' (rs := xs) (i := j) (by rw [HN.out]; exact hlt)
      obtain ⟨b, off, rfl, X⟩ := HR.out.spot hx
      have X := X.below g X.lt
      have hxm := List.mem_of_getElem? hx
      have hok := HK.out x hxm
      have hjn : (j : Int) < (n : Int) := by omega
      have HT : Hid (plF f (xs.take (j + 1)) = plF f (xs.take j) ++ see1 f x) := by show _ = _; rw [take_snoc hx, plF_snoc]
      have hlen : (plF f (xs.take j)).length + 1 ≤ 100000000 := by have := plF_len f (xs.take j); rw [List.length_take] at this; omega
      have hnn := HNo.out x hxm
      clear hx hxm
      obtain ⟨xp, xs', xq, xf, xcp, xcl, xct, xck, xcv, xcs⟩ := x
      obtain ⟨x0, x1, x2, x3, x4, x5, x6, x7, x8, x9⟩ := X
      obtain ⟨o1, o2, o3, o4, o5, o6, o7, o8, o9⟩ := hok
      dsimp only at x0 x1 x2 x3 x4 x5 x6 x7 x8 x9 o1 o2 o3 o4 o5 o6 o7 o8 o9 hnn
      subst o7
      have hgs := g.size
      have hKw : Hid (Kw xcp xcl) := kw_small o3 o4
      generalize plF f (xs.take j) = ys at ho HT hlen
      go_upto_region 5 with (fail)
      generalize hY : World.alloc _ _ = Y
      have gY : Below wr.heap.size wr Y := by rw [← hY]; go_grown
      have C : SpC Y wr.heap.size 0 ⟨xp, xs', ⟨0, xf, xcp, xcl, xct, xck, xcv, xcs⟩⟩ := by rw [← hY]; exact ⟨by simp [go_sem], by simp [go_sem], by simp [go_sem], by simp [go_sem], by simp [go_sem], by simp [go_sem], by simp [go_sem], by simp [go_sem], by simp [go_sem], by simp [go_sem]⟩
      have hcb : ∀ k, u5.ownBlock = some k → k ≠ wr.heap.size := fun k hk => by have := (ho.lt k hk).2; omega
      have hcm : ∀ k, u5.ownBlock = some k → k ≠ mb := fun k hk => by have := (ho.lt k hk).1; omega
      have ho := ownsRow_below ho gY
      have hMm := hMm.below gY
      have g := g.trans (gY.mono g.size)
      clear hY gY x0 x1 x2 x3 x4 x5 x6 x7 x8 x9
      generalize wr.heap.size = cb at C hcb ⊢
      obtain ⟨y0, y1, y2, y3, y4, y5, y6, y7, y8, y9⟩ := C
      have C : SpC Y cb 0 ⟨xp, xs', ⟨0, xf, xcp, xcl, xct, xck, xcv, xcs⟩⟩ := ⟨y0, y1, y2, y3, y4, y5, y6, y7, y8, y9⟩
      dsimp only at y0 y1 y2 y3 y4 y5 y6 y7 y8 y9
      rcases o8 with rfl | rfl | rfl
      · have HT2 : Hid (plF f (xs.take (j + 1)) = ys ++ [⟨0, xp, xs', ⟨xct, xck, xcv, xcs⟩⟩]) := by rw [HT.out]; rfl
        have hgs2 := g.size
        go_wp2_with (at_builtin; refine wpList_append_sl elPl _ rfl _ _ rfl w.heap.size _ ys [⟨0, xp, xs', ⟨xct, xck, xcv, xcs⟩⟩] (some ⟨Y.heap.size, 0, none⟩) 1 1 rfl rfl rfl (ownsRow_below ho (by go_grown)) (rs_one (enc := plE) Y ⟨0, xp, xs', ⟨xct, xck, xcv, xcs⟩⟩ 38) hlen (by simp; omega) ?_)
        intro v' w' ho' hg' _
        have hS : StS w cb mb msz ⟨xp, xs', ⟨0, 0, xcp, xcl, xct, xck, xcv, xcs⟩⟩ f Y := ⟨C, g, hMm⟩
        have hS := (hS.up ((Below.refl _ _).alloc (Nat.le_refl _) _)).grow hg' (fun k hk => (ho.lt k hk).1) (fun e => hcb _ e rfl) (fun e => hcm _ e rfl)
        have ho2 : w'.ownsRow w.heap.size 38 7 v' (plF f (xs.take (j + 1))).length (flat plE (plF f (xs.take (j + 1)))) := by rw [HT2.out, List.length_append]; exact ho'
        have g2 := hS.g
        have m2 := hS.m
        clear hS ho' hg' ho C y0 y1 y2 y3 y4 y5 y6 y7 y8 y9 g hMm
        go_wp2_with fail
        go_roundw
        case rel => exact ⟨j + 1, by omega, by go_num, g2, m2, ho2⟩
        case measure => simp [intOf]; omega
      · obtain ⟨vv0, hfv⟩ : ∃ v, f xcp xcl = some v := Option.ne_none_iff_exists'.1 (hnn rfl)
        obtain ⟨vt, vk, vv, vs, rfl⟩ := HRow.out _ _ _ hfv
        have HT2 : Hid (plF f (xs.take (j + 1)) = ys ++ [⟨0, xp, xs', ⟨vt, vk, vv, vs⟩⟩]) := by
          show _ = _
          rw [HT.out]
          simp [see1, hfv, rwOf]
        have hfv : Hid (f xcp xcl = some (.agg #[.int .i64 vt, .int .i64 vk, .int .i64 vv, .string vs])) := hfv
        clear hnn
        go_upto_region 9 with (fail)
        clear y0 y1 y2 y3 y4 y5 y6 y7 y8 y9
        have hS : StS w cb mb msz ⟨xp, xs', ⟨0, 1, xcp, xcl, xct, xck, xcv, xcs⟩⟩ f Y := ⟨C, g, hMm⟩
        refine wp_region_held_drew (S := fun V => StS w cb mb msz ⟨xp, xs', ⟨0, 1, xcp, xcl, xct, xck, xcv, xcs⟩⟩ f V) (by kernel_rfl) (hS.up (Below.refl _ _).drew) (fun hHeld => ?_)
        have ho := ownsRow_below ho (Below.refl _ _).drew
        generalize Y.drew = D at hHeld ho ⊢
        clear hS C g hMm
        refine tkH (i := 0) (v := ?v1) rfl (Or.inl ⟨by kernel_rfl, ?h1⟩) hHeld ?_
        case h1 => intro u hSw; (try dsimp only at hSw); go_simp; try with_reducible rfl
        try simp only [Act.put, tdy]
        refine tkH (i := 1) (v := ?v2) rfl (Or.inl ⟨by kernel_rfl, ?h2⟩) hHeld ?_
        case h2 => intro u hSw; (try dsimp only at hSw); go_simp; try with_reducible rfl
        try simp only [Act.put, tdy]
        refine tkH (i := 2) (v := ?v3) rfl (Or.inl ⟨by kernel_rfl, ?h3⟩) hHeld ?_
        case h3 => intro u hSw; (try dsimp only at hSw); go_simp; try with_reducible rfl
        try simp only [Act.put, tdy]
        refine tkH (i := 3) (v := ?v4) rfl (Or.inl ⟨by kernel_rfl, ?h4⟩) hHeld ?_
        case h4 => intro u hSw; obtain ⟨q0, q1, q2, q3, q4, q5, q6, q7, q8, q9⟩ := hSw.c; dsimp only at q0 q1 q2 q3 q4 q5 q6 q7 q8 q9; clear hSw; go_simp; try with_reducible rfl
        try simp only [Act.put, tdy]
        refine tkH (i := 4) (v := ?v5) rfl (Or.inl ⟨by kernel_rfl, ?h5⟩) hHeld ?_
        case h5 => intro u hSw; (try dsimp only at hSw); go_simp; try with_reducible rfl
        try simp only [Act.put, tdy]
        refine tkH (i := 5) (v := ?v6) rfl (Or.inl ⟨by kernel_rfl, ?h6⟩) hHeld ?_
        case h6 => intro u hSw; (try dsimp only at hSw); go_simp; try with_reducible rfl
        try simp only [Act.put, tdy]
        refine tkH (i := 6) (v := ?v7) rfl (Or.inl ⟨by kernel_rfl, ?h7⟩) hHeld ?_
        case h7 => intro u hSw; obtain ⟨q0, q1, q2, q3, q4, q5, q6, q7, q8, q9⟩ := hSw.c; dsimp only at q0 q1 q2 q3 q4 q5 q6 q7 q8 q9; clear hSw; go_simp; try with_reducible rfl
        try simp only [Act.put, tdy]
        refine tkH (i := 7) (v := ?v8) rfl (Or.inl ⟨by kernel_rfl, ?h8⟩) hHeld ?_
        case h8 => intro u hSw; (try dsimp only at hSw); go_simp; try with_reducible rfl
        try simp only [Act.put, tdy]
        refine tkH (i := 8) (v := ?v9) rfl (Or.inl ⟨by kernel_rfl, ?h9⟩) hHeld ?_
        case h9 => intro u hSw; obtain ⟨q0, q1, q2, q3, q4, q5, q6, q7, q8, q9⟩ := hSw.c; dsimp only at q0 q1 q2 q3 q4 q5 q6 q7 q8 q9; clear hSw; go_simp; try with_reducible rfl
        try simp only [Act.put, tdy]
        refine wpAnyH_ready (rs := [9]) (by kernel_rfl) (by simp) ?_
        refine AllReadyH.cons rfl (fun K hK => ?_) AllReadyH.nil
        go_simp
        go_wp2_with (go_at_call 131; refine (told_any _ _ _ _ _ _ _ _ _ _ _).mono ?_; rintro e W3 ⟨rfl, gg⟩)
        refine hK.out _ _ (hHeld.up gg) (fun hHeld => ?_)
        clear hK K
        have ho := ownsRow_below ho gg
        clear gg
        try simp only [Act.put, tdy]
        refine tkH (i := 10) (v := ?v10) rfl (Or.inl ⟨by kernel_rfl, ?h10⟩) hHeld ?_
        case h10 => intro u hSw; have hl := hSw.m.look keyT150 Tryz.underlying164 (Tryz.zeroValue26 u) hKw.out; simp only [kv, hfv.out, Option.getD_some] at hl; clear hSw; go_simp; try with_reducible rfl
        try simp only [Act.put, tdy]
        refine tkH (i := 11) (v := ?v11) rfl (Or.inl ⟨by kernel_rfl, ?h11⟩) hHeld ?_
        case h11 => intro u hSw; (try dsimp only at hSw); go_simp; try with_reducible rfl
        try simp only [Act.put, tdy]
        refine wpAnyH_ready (rs := [12]) (by kernel_rfl) (by simp) ?_
        refine AllReadyH.cons rfl (fun K hK => ?_) AllReadyH.nil
        go_simp
        refine hK.out _ _ (hHeld.up (by go_grown)) (fun hHeld => ?_)
        clear hK K
        try simp only [Act.put, tdy]
        have hgs3 := hHeld.g.size
        refine wpAnyH_ready (rs := [13]) (by kernel_rfl) (by simp) ?_
        refine AllReadyH.cons rfl (fun K hK => ?_) AllReadyH.nil
        rw [if_pos (by kernel_rfl)]
        refine wp_append_sl elPl _ _ _ rfl w.heap.size u5 ys [⟨0, xp, xs', ⟨vt, vk, vv, vs⟩⟩] (some ⟨W3.heap.size, 0, none⟩) 1 1 rfl rfl rfl (ownsRow_below ho (by go_grown)) (rs_one (enc := plE) W3 ⟨0, xp, xs', ⟨vt, vk, vv, vs⟩⟩ 38) hlen hgs3 ?_
        intro v' w' ho' hg' _
        refine hK.out _ _ (hHeld.grow hg' (fun k hk => (ho.lt k hk).1) (fun e => hcb _ e rfl) (fun e => hcm _ e rfl)) (fun hHeld => ?_)
        clear hK K hg' ho hgs3
        try simp only [Act.put, tdy]
        refine tkH (i := 14) (v := ?v12) rfl (Or.inl ⟨by kernel_rfl, ?h12⟩) hHeld ?_
        case h12 => intro u hSw; (try dsimp only at hSw); go_simp; try with_reducible rfl
        try simp only [Act.put, tdy]
        refine wpAnyH_done (by kernel_rfl) ?_ _
        have ho2 : w'.ownsRow w.heap.size 38 7 v' (plF f (xs.take (j + 1))).length (flat plE (plF f (xs.take (j + 1)))) := by rw [HT2.out]; exact ho'
        have g2 := hHeld.g
        have m2 := hHeld.m
        clear hHeld ho'
        go_wp2_with fail
        go_roundw
        case rel => exact ⟨j + 1, by omega, by go_num, g2, m2, ho2⟩
        case measure => simp [intOf]; omega
      · have HT2 : Hid (plF f (xs.take (j + 1)) = ys) := by rw [HT.out]; show ys ++ [] = ys; simp
        rw [← HT2.out] at ho
        go_wp2_with fail
        go_roundw
        case rel => exact ⟨j + 1, by omega, by go_num, g, hMm, ho⟩
        case measure => simp [intOf]; omega
    · have e : j = n := by omega
      subst e
      rw [List.take_of_length_le (by rw [HN.out]; exact Nat.le_refl _)] at ho
      go_wp2_with fail
      go_ret
      exact ⟨_, rfl, g, ho⟩

end Go.Proofs.YtnfolgoloaeanaaGreat

