/-
  The program's viewOf, PagesFault, FindRow.
-/
import Derived.Test.YteebbaleejbodaaARKvs

namespace Go.Proofs.Yteebbaleejbodaa
open Go.RowKit Go.Maps
set_option linter.unusedVariables false

def plV (y : Plc) : Value := .agg #[.int .i64 y.q, .int .i64 y.p, .int .i64 y.s, .int .i64 y.r.t, .int .i64 y.r.k, .int .i64 y.r.v, .string y.r.s]
def plK (y : Plc) : (Int × Int) × Value := ((y.r.t, y.r.k), plV y)
/-- Seven cells of an answer. -/
structure PlC (w : World) (b o : Nat) (y : Plc) : Prop where
  c0 : w.cell? ⟨b, o, none⟩ = some (.int .i64 y.q)
  c1 : w.cell? ⟨b, o + 1, none⟩ = some (.int .i64 y.p)
  c2 : w.cell? ⟨b, o + 2, none⟩ = some (.int .i64 y.s)
  c3 : w.cell? ⟨b, o + 3, none⟩ = some (.int .i64 y.r.t)
  c4 : w.cell? ⟨b, o + 4, none⟩ = some (.int .i64 y.r.k)
  c5 : w.cell? ⟨b, o + 5, none⟩ = some (.int .i64 y.r.v)
  c6 : w.cell? ⟨b, o + 6, none⟩ = some (.string y.r.s)
theorem PlC.of {w : World} {b o : Nat} {x : Plc} (h : ∀ j u, (plE x)[j]? = some u → w.cell? ⟨b, o + j, none⟩ = some u) : PlC w b o x :=
  ⟨h 0 _ rfl, h 1 _ rfl, h 2 _ rfl, h 3 _ rfl, h 4 _ rfl, h 5 _ rfl, h 6 _ rfl⟩
theorem PlC.below {w w' : World} {b o : Nat} {x : Plc} (h : PlC w b o x) {B : Nat} (hb : Below B w w') (hB : b < B) : PlC w' b o x :=
  have up : ∀ (p : Nat) (v : Value), w.cell? ⟨b, p, none⟩ = some v → w'.cell? ⟨b, p, none⟩ = some v := fun p v h => (hb.cell (p := ⟨b, p, none⟩) hB).trans h
  ⟨up _ _ h.c0, up _ _ h.c1, up _ _ h.c2, up _ _ h.c3, up _ _ h.c4, up _ _ h.c5, up _ _ h.c6⟩
theorem PlC.lt {w : World} {b o : Nat} {x : Plc} (h : PlC w b o x) : b < w.heap.size := World.block_lt_of_cell? w _ h.c0
theorem PlC.turn {V W : World} {cb o : Nat} {x : Plc} (h : PlC V cb o x) {tb : Nat} (ht : V.mapTurned W tb) (h4 : cb ≠ tb) : PlC W cb o x := by
  have g := ht.grown
  have up : ∀ (p : Nat) (v : Value), V.cell? ⟨cb, p, none⟩ = some v → W.cell? ⟨cb, p, none⟩ = some v := fun p v h => by
    have hl := World.block_lt_of_cell? V _ h
    rw [World.cell?_of_block (w := V) (g.block cb hl (fun e => h4 (by injection e)))]; exact h
  exact ⟨up _ _ h.c0, up _ _ h.c1, up _ _ h.c2, up _ _ h.c3, up _ _ h.c4, up _ _ h.c5, up _ _ h.c6⟩
theorem Rs.plc {w : World} {a : Option Addr} {xs : List Plc} (h : Rs plE 7 w a xs) {i : Nat} {x : Plc} (hx : xs[i]? = some x) : ∃ b off, a = some ⟨b, off, none⟩ ∧ PlC w b (off + i * 7) x := by
  rcases h with h | ⟨b, off, ha, hc⟩
  · rw [h] at hx; simp at hx
  · exact ⟨b, off, ha, PlC.of (hc i x hx)⟩

theorem cell_turn {w w' : World} {tb : Nat} (ht : w.mapTurned w' tb) {p : Addr} {v : Value} (h : w.cell? p = some v) : w'.cell? p = some v := by
  have g := ht.grown
  obtain ⟨es, clock, es', clock', hb, rfl⟩ := ht
  have hne : p.block ≠ tb := by
    intro e
    unfold World.cell? at h
    rw [e, hb] at h
    simp at h
  rw [World.cell?_of_block (w := w) (g.block p.block (World.block_lt_of_cell? w _ h) (fun e => hne (by injection e)))]; exact h
theorem Rs.turn {α : Type} {enc : α → List Value} {k : Nat} {w w' : World} {a : Option Addr} {xs : List α} (h : Rs enc k w a xs) {tb : Nat} (ht : w.mapTurned w' tb) : Rs enc k w' a xs := by
  rcases h with h | ⟨b, off, ha, hc⟩
  · exact .inl h
  · exact .inr ⟨b, off, ha, fun i x hx j u hu => cell_turn ht (hc i x hx j u hu)⟩

/-- What is seen in pages. -/
def seenL (ps : List (List Int)) : List Plc := plF (mvF (allL ps)) (allL ps)
def seenKV (ps : List (List Int)) : List ((Int × Int) × Value) := (seenL ps).map plK
def stubQ (ps : List (List Int)) : Int := stQ (mvF (allL ps)) (allL ps)
/-- The code of pages. -/
def viewQ (ps : List (List Int)) : Int := if allQ ps = 0 then (if stubQ ps = 0 then (if ((seenKV ps).map (·.1)).Nodup then 0 else 8) else stubQ ps) else allQ ps

/-- What viewOf answers. -/
def ViPost (ps : List (List Int)) (w : World) (e : Ending) (w' : World) : Prop :=
  ∃ m, e = .returned (.tuple #[.map m, .int .i64 (viewQ ps)]) ∧ Below w.heap.size w w' ∧ (viewQ ps = 0 → ∃ b sz, m = some b ∧ MapK 147 w' b (seenKV ps) sz)

theorem stQ_zero {f : Int → Int → Option Value} {xs : List Spt} (h : stQ f xs = 0) : noneB f xs = false := by
  unfold stQ at h
  split at h
  · simp at h
  · rename_i h1; simpa using h1

set_option maxRecDepth 20000 in
set_option maxHeartbeats 4000000 in
theorem viewOf_any (a : Option Addr) (ps : List (List Int)) (n c : Nat) (w : World) (hn : ps.length = n) (hm : n ≤ 9223372036854775807) (hp : PgOk ps) (hr : PgRead w a ps) :
    Calls Try.prog 113 #[.slice a n c] w fun e w' => ViPost ps w e w' := by
  have hmm := @run_makeMap Try.prog
  obtain ⟨hok, hl200⟩ := allL_ok hp
  go_enter Try.func113, Try.ntmps113
  go_wp2_with fail
  refine (allCells_any a ps n c _ hn hm hp hr).mono ?_
  rintro e w1 ⟨v1, rfl, g1, o1⟩
  clear hr
  obtain ⟨q1, hq1⟩ : ∃ q, q = allQ ps := ⟨_, rfl⟩
  have HQ1 : Hid (allQ ps = q1) := hq1.symm
  rw [← hq1]
  clear hq1
  by_cases hq0 : q1 = 0
  · subst hq0
    obtain ⟨xs, hxs⟩ : ∃ xs, xs = allL ps := ⟨_, rfl⟩
    have HX : Hid (allL ps = xs) := hxs.symm
    rw [← hxs] at o1 hok hl200
    clear hxs
    obtain ⟨a1, c1, rfl, _, s1, _⟩ := SlIn.ofRow spE_len o1
    have r1 := s1.reads
    clear s1 o1
    go_wp2_with fail
    refine (movedRows_any a1 xs xs.length c1 _ rfl (by omega) hok r1).mono ?_
    rintro e w2 ⟨rfl, g2, msz, _, m2⟩
    have r2 := r1.below g2 (Nat.le_refl _)
    have g := g1.trans (g2.mono g1.size)
    clear r1 g1 g2
    generalize w1.heap.size = mb at m2 ⊢
    go_wp2_with fail
    refine (stubsFault_any a1 xs xs.length c1 _ mb msz (mvF xs) rfl (by omega) hok r2 m2 (mvF_row xs)).mono ?_
    rintro e w3 ⟨rfl, g3⟩
    have r3 := r2.below g3 (Nat.le_refl _)
    have m3 := m2.below g3
    have g := g.trans (g3.mono g.size)
    clear r2 g3 m2
    obtain ⟨q2, hq2⟩ : ∃ q, q = stQ (mvF xs) xs := ⟨_, rfl⟩
    have HQ2 : Hid (stubQ ps = q2) := by show _ = _; unfold stubQ; rw [HX.out, ← hq2]
    rw [← hq2]
    by_cases hq3 : q2 = 0
    · have hno := stQ_zero (hq2.symm.trans hq3)
      clear hq2
      subst hq3
      go_wp2_with fail
      refine (seenRows_any a1 xs xs.length c1 _ mb msz (mvF xs) rfl (by omega) hok r3 m3 (mvF_row xs) hno).mono ?_
      rintro e w4 ⟨v4, rfl, g4, o4⟩
      have g := g.trans (g4.mono g.size)
      clear r3 m3 g4 hno
      have hpl := plF_ok hok
      have hln := plF_len (mvF xs) xs
      obtain ⟨ys, hys⟩ : ∃ ys, ys = plF (mvF xs) xs := ⟨_, rfl⟩
      rw [← hys] at o4 hpl hln
      have HY : Hid (seenL ps = ys) := by show _ = _; unfold seenL; rw [HX.out, ← hys]
      clear hys
      obtain ⟨a4, c4, rfl, _, s4, _⟩ := SlIn.ofRow plE_len o4
      have r4 := s4.reads
      clear s4 o4
      have HPl : Hid (∀ y ∈ ys, small y.r.t ∧ small y.r.k ∧ y.q = 0 ∧ y.r.s.size ≤ 64) := hpl
      have hk4 := MapK.made 147 w4
      have g5 : Below w4.heap.size w4 (w4.alloc (.map #[] 0)) := by go_grown
      have r5 := r4.below g5 (Nat.le_refl _)
      have hmb : w.heap.size ≤ w4.heap.size := g.size
      have g := g.trans (g5.mono g.size)
      clear r4 g5 hpl
      go_wp2_with fail
      clear hmm
      generalize hY0 : World.alloc _ _ = Y0
      rw [hY0] at hk4 r5 g
      clear hY0
      generalize w4.heap.size = vb at hk4 hmb ⊢
      obtain ⟨n4, hn4⟩ : ∃ n4, n4 = ys.length := ⟨_, rfl⟩
      have HN4 : Hid (ys.length = n4) := hn4.symm
      rw [← hn4] at hln ⊢
      clear hn4
      go_loopw [34] (fun i wr => ∃ (j sz : Nat), j ≤ n4 ∧ i = .int .i64 j ∧ Below w.heap.size w wr ∧ Rs plE 7 wr a4 ys ∧ MapK 147 wr vb ((ys.take j).map plK) sz) (fun i _ => n4 - (intOf i).toNat)
      case atStart => exact ⟨0, 0, Nat.zero_le _, rfl, g, r5, hk4⟩
      case round =>
        clear r5 hk4 g
        obtain ⟨j, sz, hj, rfl, g, hr, hK1⟩ := hrel
        by_cases hlt : j < n4
        · obtain ⟨y, hy⟩ := at_lt' (rs := ys) (i := j) (by rw [HN4.out]; exact hlt)
          obtain ⟨b, off, rfl, X⟩ := hr.plc hy
          have hjn : (j : Int) < (n4 : Int) := by omega
          have HT : Hid ((ys.take (j + 1)).map plK = (ys.take j).map plK ++ [plK y]) := by show _ = _; rw [take_snoc hy, List.map_append]; rfl
          have HL2 : Hid (((ys.take j).map plK).length = j) := by show _ = _; rw [List.length_map, List.length_take, HN4.out]; omega
          obtain ⟨o1, o2, o3, o4⟩ := HPl.out y (List.mem_of_getElem? hy)
          have hKw : Hid (Kw y.r.t y.r.k) := kw_small o1 o2
          clear hy o1 o2 o4
          obtain ⟨yq, yp, ys', yt, yk, yv, yst⟩ := y
          dsimp only at o3 hKw
          subst o3
          obtain ⟨x0, x1, x2, x3, x4, x5, x6⟩ := X
          dsimp only at x0 x1 x2 x3 x4 x5 x6
          have hgs := g.size
          have hcb : wr.heap.size ≠ vb := by have := hK1.1.lt; omega
          go_upto_region 12 with (fail)
          generalize hY : World.alloc _ _ = Y
          have gY : Below wr.heap.size wr Y := by rw [← hY]; go_grown
          have C : PlC Y wr.heap.size 0 ⟨0, yp, ys', ⟨yt, yk, yv, yst⟩⟩ := by rw [← hY]; exact ⟨by simp [go_sem], by simp [go_sem], by simp [go_sem], by simp [go_sem], by simp [go_sem], by simp [go_sem], by simp [go_sem]⟩
          have hK1 := hK1.below gY
          have hr := hr.below gY (Nat.le_refl _)
          have g := g.trans (gY.mono g.size)
          clear hY gY x0 x1 x2 x3 x4 x5 x6
          generalize wr.heap.size = cb at C hcb ⊢
          refine wp_region_held_drew (S := fun V => PlC V cb 0 ⟨0, yp, ys', ⟨yt, yk, yv, yst⟩⟩ ∧ Below w.heap.size w V) (by kernel_rfl) ⟨C.below (Below.refl _ _).drew C.lt, g.drew⟩ (fun hHeld => ?_)
          have hK1 := hK1.below (Below.refl _ _).drew
          have hr := hr.below (Below.refl _ _).drew (Nat.le_refl _)
          generalize Y.drew = D at hHeld hK1 hr ⊢
          clear C g
          refine wpAnyH_take (i := 0) (v := ?v1) rfl (by kernel_rfl) (by kernel_rfl) (by kernel_rfl) (fun _ _ _ h => h) (Or.inl ⟨by kernel_rfl, ?h1⟩) hHeld ?_
          case h1 => intro u hSw; (try dsimp only at hSw); go_simp; try with_reducible rfl
          try simp only [List.getElem_toArray]
          try simp only [List.getElem_cons_succ]
          try simp only [List.getElem_cons_zero]
          try simp only [Act.put]
          try simp only [List.setIfInBounds_toArray]
          try simp only [List.set]
          refine wpAnyH_take (i := 1) (v := ?v2) rfl (by kernel_rfl) (by kernel_rfl) (by kernel_rfl) (fun _ _ _ h => h) (Or.inl ⟨by kernel_rfl, ?h2⟩) hHeld ?_
          case h2 => intro u hSw; (try dsimp only at hSw); go_simp; try with_reducible rfl
          try simp only [List.getElem_toArray]
          try simp only [List.getElem_cons_succ]
          try simp only [List.getElem_cons_zero]
          try simp only [Act.put]
          try simp only [List.setIfInBounds_toArray]
          try simp only [List.set]
          refine wpAnyH_take (i := 2) (v := ?v3) rfl (by kernel_rfl) (by kernel_rfl) (by kernel_rfl) (fun _ _ _ h => h) (Or.inl ⟨by kernel_rfl, ?h3⟩) hHeld ?_
          case h3 => intro u hSw; obtain ⟨q0, q1, q2, q3, q4, q5, q6⟩ := hSw.1; dsimp only at q0 q1 q2 q3 q4 q5 q6; clear hSw; go_simp; try with_reducible rfl
          try simp only [List.getElem_toArray]
          try simp only [List.getElem_cons_succ]
          try simp only [List.getElem_cons_zero]
          try simp only [Act.put]
          try simp only [List.setIfInBounds_toArray]
          try simp only [List.set]
          refine wpAnyH_take (i := 4) (v := ?v4) rfl (by kernel_rfl) (by kernel_rfl) (by kernel_rfl) (fun _ _ _ h => h) (Or.inl ⟨by kernel_rfl, ?h4⟩) hHeld ?_
          case h4 => intro u hSw; obtain ⟨q0, q1, q2, q3, q4, q5, q6⟩ := hSw.1; dsimp only at q0 q1 q2 q3 q4 q5 q6; clear hSw; go_simp; try with_reducible rfl
          try simp only [List.getElem_toArray]
          try simp only [List.getElem_cons_succ]
          try simp only [List.getElem_cons_zero]
          try simp only [Act.put]
          try simp only [List.setIfInBounds_toArray]
          try simp only [List.set]
          refine wpAnyH_ready (rs := [3]) (by kernel_rfl) (by simp) ?_
          refine AllReadyH.cons rfl (fun K hK => ?_) AllReadyH.nil
          go_simp
          go_wp2_with (go_at_call 106; refine (keyOf_any _ _ _ _ _).mono ?_; rintro e W3 ⟨rfl, gg⟩)
          refine hK.out _ _ (⟨hHeld.1.below gg hHeld.1.lt, hHeld.2.trans (gg.mono hHeld.2.size)⟩) (fun hHeld => ?_)
          clear hK K
          have hK1 := hK1.below gg
          have hr := hr.below gg (Nat.le_refl _)
          clear gg
          try simp only [Act.put]
          try simp only [List.setIfInBounds_toArray]
          try simp only [List.set]
          obtain ⟨W4, e4, m4, t4⟩ := hK1.1.store keyT73 Try.underlying158 hKw.out (.agg #[.int .i64 0, .int .i64 yp, .int .i64 ys', .int .i64 yt, .int .i64 yk, .int .i64 yv, .string yst]) (by have := hK1.2.1; rw [HL2.out] at this; omega)
          simp only [kv] at e4
          have hK2 := hK1.add m4
          have hlt1 := hK1.1.lt
          have gT := turned_below t4 hmb hlt1
          have hcb4 := hcb
          refine wpAnyH_ready (rs := [5]) (by kernel_rfl) (by simp) ?_
          refine AllReadyH.cons rfl (fun K hK => ?_) AllReadyH.nil
          go_simp
          refine hK.out _ _ ⟨hHeld.1.turn t4 hcb, hHeld.2.trans gT⟩ (fun hHeld => ?_)
          clear hK K e4
          try simp only [Act.put]
          try simp only [List.setIfInBounds_toArray]
          try simp only [List.set]
          refine wpAnyH_done (by kernel_rfl) ?_ _
          have g2 := hHeld.2
          have hr2 := hr.turn t4
          have hK2 : MapK 147 W4 vb ((ys.take (j + 1)).map plK) (nSz (kvF ((ys.take j).map plK) yt yk) sz) := by rw [HT.out]; exact hK2
          clear hHeld
          go_wp2_with fail
          go_roundw
          case rel => exact ⟨j + 1, _, by omega, by go_num, g2, hr2, hK2⟩
          case measure => simp [intOf]; omega
        · have e : j = n4 := by omega
          subst e
          rw [List.take_of_length_le (by rw [HN4.out]; exact Nat.le_refl _)] at hK1
          have HKV : Hid (seenKV ps = ys.map plK) := by show _ = _; unfold seenKV; rw [HY.out]
          have hln4 := hK1.1.len Try.underlying158 3
          have hle := hK1.2.1
          have hiff := hK1.2.2
          rw [List.length_map, HN4.out] at hle hiff
          have HI : Hid (sz = j ↔ ((ys.map plK).map (·.1)).Nodup) := hiff
          clear hiff
          by_cases hd : sz = j
          · have HQ : Hid (viewQ ps = 0) := by show _ = _; unfold viewQ; rw [if_pos HQ1.out, if_pos HQ2.out, HKV.out, if_pos (HI.out.1 hd)]
            have d : decide ((sz : Int) < (j : Int)) = false := by simp; omega
            go_wp2_with fail
            go_ret2
            exact ⟨some vb, by rw [HQ.out]; rfl, g, fun _ => ⟨vb, sz, rfl, by rw [HKV.out]; exact hK1⟩⟩
          · have HQ : Hid (viewQ ps = 8) := by show _ = _; unfold viewQ; rw [if_pos HQ1.out, if_pos HQ2.out, HKV.out, if_neg (fun h => hd (HI.out.2 h))]
            have d : (sz : Int) < (j : Int) := by omega
            go_wp2_with fail
            go_ret2
            exact ⟨none, by rw [HQ.out]; rfl, g, fun h => by rw [HQ.out] at h; simp at h⟩
    · have HQ : Hid (viewQ ps = q2) := by show _ = _; unfold viewQ; rw [if_pos HQ1.out, if_neg (by rw [HQ2.out]; exact hq3), HQ2.out]
      have d : (q2 != 0) = true := by simpa using hq3
      clear hq2
      go_wp2_with fail
      go_ret2
      exact ⟨none, by rw [HQ.out]; rfl, g, fun h => by rw [HQ.out] at h; exact absurd h hq3⟩
  · have HQ : Hid (viewQ ps = q1) := by show _ = _; unfold viewQ; rw [if_neg (by rw [HQ1.out]; exact hq0), HQ1.out]
    have d : (q1 != 0) = true := by simpa using hq0
    go_wp2_with fail
    go_ret2
    exact ⟨none, by rw [HQ.out]; rfl, g1, fun h => by rw [HQ.out] at h; exact absurd h hq0⟩

set_option maxHeartbeats 1000000 in
theorem implPagesFault_any (a : Option Addr) (ps : List (List Int)) (n c : Nat) (w : World) (hn : ps.length = n) (hm : n ≤ 9223372036854775807) (hp : PgOk ps) (hr : PgRead w a ps) :
    Calls Try.prog 61 #[.slice a n c] w fun e w' => e = .returned (.int .i64 (viewQ ps)) ∧ Below w.heap.size w w' := by
  go_enter Try.func61, Try.ntmps61
  go_wp2_with fail
  refine (viewOf_any a ps n c _ hn hm hp hr).mono ?_
  rintro e w1 ⟨m, rfl, g, _⟩
  go_wp2_with fail
  go_ret
  exact ⟨rfl, g⟩

end Go.Proofs.Yteebbaleejbodaa
