/-
  The program's changesBetween.
-/
import Derived.Test.YthhkgpflodeleaaFCRkd
import Derived.Test.YthhkgpflodeleaaFCHlp
import Derived.Test.YthhkgpflodeleaaFCIac

namespace Go.Proofs.Ythhkgpflodeleaa
open Go.RowKit Go.Maps
set_option linter.unusedVariables false

/-- What changesBetween hands back. -/
def CbPost (bs az : List Rw) (w : World) (e : Ending) (w' : World) : Prop :=
  ∃ v cs ys, e = .returned v ∧ Below w.heap.size w w' ∧ w'.ownsRow w.heap.size 51 10 v cs.length (flat chE cs) ∧ Rise ys ∧ ys.Nodup ∧ (∀ x : K3, x ∈ ys ↔ (chK bs az x.x x.y).isSome = true) ∧ cs.map some = ys.map fun x => chK bs az x.x x.y

theorem filterMap_mapsome {α β : Type} (f : α → Option β) (l : List α) : (l.filterMap f).map Option.some = (l.filter fun x => (f x).isSome).map f := by
  induction l with
  | nil => rfl
  | cons x l ih =>
    cases h : f x with
    | none => simp [h, ih]
    | some y => simp [h, ih]
theorem cbPost_mk {bs az : List Rw} {w wr : World} {v : Value} {ys : List K3} (g : Below w.heap.size w wr) (ho : wr.ownsRow w.heap.size 51 10 v (ys.filterMap (fun x => chK bs az x.x x.y)).length (flat chE (ys.filterMap (fun x => chK bs az x.x x.y)))) (hr : Rise ys) (hd : ys.Nodup) (hM : ∀ x : K3, x ∈ ys ↔ (chF bs az x.x x.y).isSome = true) : CbPost bs az w (.returned v) wr := by
  refine ⟨v, _, ys.filter (fun x => (chK bs az x.x x.y).isSome), rfl, g, ho, ?_, hd.sublist List.filter_sublist, fun x => ?_, filterMap_mapsome _ _⟩
  · exact List.Pairwise.sublist List.filter_sublist hr
  · rw [List.mem_filter]
    constructor
    · exact fun h => h.2
    · exact fun h => ⟨(hM x).2 (chK_sub h), h⟩

set_option maxRecDepth 20000 in
set_option maxHeartbeats 4000000 in
theorem changesBetween_any (a a' : Option Addr) (bs az : List Rw) (n n' c c' : Nat) (w : World) (hn : bs.length = n) (hn' : az.length = n') (hm : n ≤ 1000) (hm' : n' ≤ 1000) (hk : ∀ r ∈ bs, Kw r.t r.k ∧ r.s.size ≤ 1048576) (hk' : ∀ r ∈ az, Kw r.t r.k ∧ r.s.size ≤ 1048576) (hu : Uniq bs) (hu' : Uniq az) (hr : Rs rwE 4 w a bs) (hr' : Rs rwE 4 w a' az) :
    Calls Try.prog 19 #[.slice a n c, .slice a' n' c'] w fun e w' => CbPost bs az w e w' := by
  have hmm := @run_makeMap Try.prog
  have HN : Hid (bs.length = n) := hn
  have HN' : Hid (az.length = n') := hn'
  have HK : Hid (∀ r ∈ bs, Kw r.t r.k ∧ r.s.size ≤ 1048576) := hk
  have HK' : Hid (∀ r ∈ az, Kw r.t r.k ∧ r.s.size ≤ 1048576) := hk'
  have HU : Hid (Uniq bs) := hu
  have HU' : Hid (Uniq az) := hu'
  have hk4 : MapF 56 (w.alloc (.map #[] 0)) w.heap.size (chF [] []) 0 := MapF.made _ _
  have gA : Below w.heap.size w (w.alloc (.map #[] 0)) := by go_grown
  have hr := hr.below gA (Nat.le_refl _)
  have HR' : Hid (∀ W, Below w.heap.size w W → Rs rwE 4 W a' az) := fun W hW => hr'.below hW (Nat.le_refl _)
  clear hn hn' hk hk' hu hu' hr'
  go_enter Try.func19, Try.ntmps19
  go_wp2_with fail
  generalize w.alloc (.map #[] 0) = X at hk4 gA hr ⊢
  obtain ⟨vb, hvb0⟩ : ∃ vb, vb = w.heap.size := ⟨_, rfl⟩
  have hvb : w.heap.size ≤ vb := by omega
  rw [← hvb0] at hk4
  rw [show w.heap.size = vb from hvb0.symm]
  clear hvb0
  go_loopw [17] (fun i wr => ∃ (j sz : Nat), j ≤ n ∧ i = .int .i64 j ∧ sz ≤ j ∧ Below w.heap.size w wr ∧ Rs rwE 4 wr a bs ∧ MapF 56 wr vb (chF (bs.take j) []) sz) (fun i _ => n - (intOf i).toNat)
  case atStart => exact ⟨0, 0, Nat.zero_le _, rfl, Nat.le_refl _, gA, hr, hk4⟩
  case round =>
    clear hr hk4 gA
    obtain ⟨j, sz, hj, rfl, hszj, g, hr, hK1⟩ := hrel
    by_cases hlt : j < n
    · obtain ⟨x, hx⟩ := at_lt (rs := bs) (i := j) (by rw [HN.out]; exact hlt)
      obtain ⟨b, off, rfl, X'⟩ := hr.row hx
      have hjn : (j : Int) < (n : Int) := by omega
      have HT := chF_step1 HU.out hx
      have hKw : Hid (Kw x.t x.k) := (HK.out x (List.mem_of_getElem? hx)).1
      have hsz := (HK.out x (List.mem_of_getElem? hx)).2
      clear hx
      obtain ⟨xt, xk, xv, xs0⟩ := x
      have HT : Hid (upd (chF (bs.take j) []) xt xk (some (chV ⟨true, ⟨xt, xk, xv, xs0⟩, false, zR⟩)) = chF (bs.take (j + 1)) []) := HT
      dsimp only at hKw hsz
      obtain ⟨x0, x1, x2, x3⟩ := X'
      dsimp only at x0 x1 x2 x3
      have hgs := g.size
      have hcb : wr.heap.size ≠ vb := by have := hK1.lt; omega
      go_upto_region 5 with (fail)
      generalize hY : World.alloc _ _ = Y
      have gY : Below wr.heap.size wr Y := by rw [← hY]; go_grown
      have C : RowC Y wr.heap.size 0 ⟨xt, xk, xv, xs0⟩ := by rw [← hY]; exact ⟨by simp [go_sem], by simp [go_sem], by simp [go_sem], by simp [go_sem]⟩
      have hK1 := hK1.below gY
      have hr := hr.below gY (Nat.le_refl _)
      have g := g.trans (gY.mono g.size)
      clear hY gY x0 x1 x2 x3
      generalize wr.heap.size = cb at C hcb ⊢
      refine wp_region_held_drew (S := fun V => RowC V cb 0 ⟨xt, xk, xv, xs0⟩ ∧ Below w.heap.size w V) (by kernel_rfl) ⟨C.below (Below.refl _ _).drew C.lt, g.drew⟩ (fun hHeld => ?_)
      have hK1 := hK1.below (Below.refl _ _).drew
      have hr := hr.below (Below.refl _ _).drew (Nat.le_refl _)
      generalize Y.drew = D at hHeld hK1 hr ⊢
      clear C g
      refine wpAnyH_take (i := 0) (v := ?v1) rfl (by kernel_rfl) (by kernel_rfl) (by kernel_rfl) (fun _ _ _ h => h) (Or.inl ⟨by kernel_rfl, ?h1⟩) hHeld ?_
      case h1 => intro u hSw; obtain ⟨q0, q1, q2, q3⟩ := hSw.1; dsimp only at q0 q1 q2 q3; clear hSw; go_simp; try with_reducible rfl
      try simp only [List.getElem_toArray]
      try simp only [List.getElem_cons_succ]
      try simp only [List.getElem_cons_zero]
      try simp only [Act.put]
      try simp only [List.setIfInBounds_toArray]
      try simp only [List.set]
      refine wpAnyH_take (i := 1) (v := ?v2) rfl (by kernel_rfl) (by kernel_rfl) (by kernel_rfl) (fun _ _ _ h => h) (Or.inl ⟨by kernel_rfl, ?h2⟩) hHeld ?_
      case h2 => intro u hSw; obtain ⟨q0, q1, q2, q3⟩ := hSw.1; dsimp only at q0 q1 q2 q3; clear hSw; go_simp; try with_reducible rfl
      try simp only [List.getElem_toArray]
      try simp only [List.getElem_cons_succ]
      try simp only [List.getElem_cons_zero]
      try simp only [Act.put]
      try simp only [List.setIfInBounds_toArray]
      try simp only [List.set]
      refine wpAnyH_take (i := 3) (v := ?v3) rfl (by kernel_rfl) (by kernel_rfl) (by kernel_rfl) (fun _ _ _ h => h) (Or.inl ⟨by kernel_rfl, ?h3⟩) hHeld ?_
      case h3 => intro u hSw; obtain ⟨q0, q1, q2, q3⟩ := hSw.1; dsimp only at q0 q1 q2 q3; clear hSw; go_simp; try with_reducible rfl
      try simp only [List.getElem_toArray]
      try simp only [List.getElem_cons_succ]
      try simp only [List.getElem_cons_zero]
      try simp only [Act.put]
      try simp only [List.setIfInBounds_toArray]
      try simp only [List.set]
      refine wpAnyH_ready (rs := [2]) (by kernel_rfl) (by simp) ?_
      refine AllReadyH.cons rfl (fun K hK => ?_) AllReadyH.nil
      go_simp
      go_wp2_with (go_at_call 36; refine (keyOf_any _ _ _ _ _).mono ?_; rintro e W3 ⟨rfl, gg⟩)
      refine hK.out _ _ (⟨hHeld.1.below gg hHeld.1.lt, hHeld.2.trans (gg.mono hHeld.2.size)⟩) (fun hHeld => ?_)
      clear hK K
      have hK1 := hK1.below gg
      have hr := hr.below gg (Nat.le_refl _)
      clear gg
      try simp only [Act.put]
      try simp only [List.setIfInBounds_toArray]
      try simp only [List.set]
      refine wpAnyH_ready (rs := [4]) (by kernel_rfl) (by simp) ?_
      refine AllReadyH.cons rfl (fun K hK => ?_) AllReadyH.nil
      go_simp
      go_wp2_with (go_at_call 25; refine (ownRow_any _ _ _ _ _ hsz).mono ?_; rintro e W5 ⟨rfl, gg⟩)
      refine hK.out _ _ (⟨hHeld.1.below gg hHeld.1.lt, hHeld.2.trans (gg.mono hHeld.2.size)⟩) (fun hHeld => ?_)
      clear hK K
      have hK1 := hK1.below gg
      have hr := hr.below gg (Nat.le_refl _)
      clear gg
      try simp only [Act.put]
      try simp only [List.setIfInBounds_toArray]
      try simp only [List.set]
      refine wpAnyH_take (i := 5) (v := ?v4) rfl (by kernel_rfl) (by kernel_rfl) (by kernel_rfl) (fun _ _ _ h => h) (Or.inl ⟨by kernel_rfl, ?h4⟩) hHeld ?_
      case h4 => intro u hSw; obtain ⟨q0, q1, q2, q3⟩ := hSw.1; dsimp only at q0 q1 q2 q3; clear hSw; go_simp; try with_reducible rfl
      try simp only [List.getElem_toArray]
      try simp only [List.getElem_cons_succ]
      try simp only [List.getElem_cons_zero]
      try simp only [Act.put]
      try simp only [List.setIfInBounds_toArray]
      try simp only [List.set]
      obtain ⟨W4, e4, m4, t4⟩ := hK1.store keyT73 Try.underlying71 hKw.out (.agg #[.bool true, .int .i64 xt, .int .i64 xk, .int .i64 xv, .string xs0, .bool false, .int .i64 0, .int .i64 0, .int .i64 0, .string ⟨#[]⟩]) (by omega)
      simp only [kv] at e4
      have hlt1 := hK1.lt
      have gT := turned_below t4 hvb hlt1
      refine wpAnyH_ready (rs := [6]) (by kernel_rfl) (by simp) ?_
      refine AllReadyH.cons rfl (fun K hK => ?_) AllReadyH.nil
      go_simp
      refine hK.out _ _ ⟨hHeld.1.turn t4 hcb, hHeld.2.trans gT⟩ (fun hHeld => ?_)
      clear hK K e4
      try simp only [Act.put]
      try simp only [List.setIfInBounds_toArray]
      try simp only [List.set]
      refine wpAnyH_done (by kernel_rfl) ?_ _
      have g2 := hHeld.2
      have hr2 := hr.turn t4
      have hK2 : MapF 56 W4 vb (chF (bs.take (j + 1)) []) (nSz (chF (bs.take j) [] xt xk) sz) := by rw [← HT.out]; exact m4
      have hsz2 : nSz (chF (bs.take j) [] xt xk) sz ≤ j + 1 := by have := nSz_le (chF (bs.take j) [] xt xk) sz; omega
      clear hHeld
      go_wp2_with fail
      go_roundw
      case rel => exact ⟨j + 1, _, by omega, by go_num, hsz2, g2, hr2, hK2⟩
      case measure => simp [intOf]; omega
    · have e : j = n := by omega
      subst e
      rw [List.take_of_length_le (by rw [HN.out]; exact Nat.le_refl _)] at hK1
      have hK1 : MapF 56 wr vb (chF bs (az.take 0)) sz := hK1
      have g0 := g
      have hK0 := hK1
      clear hr
      go_wp2_with fail
      go_loopw [30] (fun i wr => ∃ (j sz : Nat), j ≤ n' ∧ i = .int .i64 j ∧ sz ≤ 1000 + j ∧ Below w.heap.size w wr ∧ MapF 56 wr vb (chF bs (az.take j)) sz) (fun i _ => n' - (intOf i).toNat)
      case atStart => exact ⟨0, sz, Nat.zero_le _, rfl, by omega, g0, hK0⟩
      case round =>
        clear hK1 hK0 g g0
        obtain ⟨j2, sz2, hj2, rfl, hszj2, g, hK1⟩ := hrel
        by_cases hlt2 : j2 < n'
        · obtain ⟨x, hx⟩ := at_lt (rs := az) (i := j2) (by rw [HN'.out]; exact hlt2)
          obtain ⟨b, off, rfl, X'⟩ := (HR'.out _ g).row hx
          have hjn : (j2 : Int) < (n' : Int) := by omega
          have HT := chF_step2 (bs := bs) HU'.out hx
          have hKw : Hid (Kw x.t x.k) := (HK'.out x (List.mem_of_getElem? hx)).1
          have hsz := (HK'.out x (List.mem_of_getElem? hx)).2
          clear hx
          obtain ⟨xt, xk, xv, xs0⟩ := x
          dsimp only at hKw hsz HT
          obtain ⟨o, ho⟩ : ∃ o, o = chAt bs (az.take j2) xt xk := ⟨_, rfl⟩
          rw [← ho] at HT
          have HF : Hid (chF bs (az.take j2) xt xk = o.map chV) := by show _ = _; rw [ho]; rfl
          have HV : Hid ((o.map chV).getD (.agg #[.bool false, .int .i64 0, .int .i64 0, .int .i64 0, .string ⟨#[]⟩, .bool false, .int .i64 0, .int .i64 0, .int .i64 0, .string ⟨#[]⟩]) = chV (o.getD ⟨false, zR, false, zR⟩)) := by cases o <;> rfl
          clear ho
          generalize o.getD ⟨false, zR, false, zR⟩ = bb at HT HV
          obtain ⟨p0, ⟨pt, pk, pv, ps⟩, p5, ⟨rt, rk, rv, rs⟩⟩ := bb
          have HT : Hid (upd (chF bs (az.take j2)) xt xk (some (.agg #[.bool p0, .int .i64 pt, .int .i64 pk, .int .i64 pv, .string ps, .bool true, .int .i64 xt, .int .i64 xk, .int .i64 xv, .string xs0])) = chF bs (az.take (j2 + 1))) := HT
          obtain ⟨x0, x1, x2, x3⟩ := X'
          dsimp only at x0 x1 x2 x3
          have hgs := g.size
          have hkv : wr.heap.size ≠ vb := by have := hK1.lt; omega
          go_upto_region 10 with (fail)
          generalize hY : World.alloc _ _ = Y
          have gY : Below wr.heap.size wr Y := by rw [← hY]; go_grown
          have C : RowC Y wr.heap.size 0 ⟨xt, xk, xv, xs0⟩ := by rw [← hY]; exact ⟨by simp [go_sem], by simp [go_sem], by simp [go_sem], by simp [go_sem]⟩
          have hK1 := hK1.below gY
          have g := g.trans (gY.mono g.size)
          clear hY gY x0 x1 x2 x3
          generalize wr.heap.size = kb at C hkv ⊢
          obtain ⟨x0, x1, x2, x3⟩ := C
          dsimp only at x0 x1 x2 x3
          go_wp2_with fail
          refine (keyOf_any _ _ _ _ _).mono ?_
          rintro e W3 ⟨rfl, g3⟩
          have C : RowC W3 kb 0 ⟨xt, xk, xv, xs0⟩ := RowC.below (w := Y) ⟨x0, x1, x2, x3⟩ g3 (World.block_lt_of_cell? _ _ x0)
          have hK1 := hK1.below g3
          have g := g.trans (g3.mono g.size)
          have hl := hK1.look keyT73 Try.underlying71 (Try.zeroValue51 W3) hKw.out
          rw [HF.out, HV.out] at hl
          simp only [kv, chV] at hl
          clear g3 x0 x1 x2 x3
          go_upto_region 11 with (fail)
          generalize hY : World.alloc _ _ = Y2
          have gY : Below W3.heap.size W3 Y2 := by rw [← hY]; go_grown
          have Z : ChC Y2 W3.heap.size 0 ⟨p0, ⟨pt, pk, pv, ps⟩, p5, ⟨rt, rk, rv, rs⟩⟩ := by rw [← hY]; exact ⟨by simp [go_sem], by simp [go_sem], by simp [go_sem], by simp [go_sem], by simp [go_sem], by simp [go_sem], by simp [go_sem], by simp [go_sem], by simp [go_sem], by simp [go_sem]⟩
          have hfz : ∀ c, Y2.frozen? ⟨W3.heap.size, c, none⟩ = false := by intro c; rw [← hY]; simp [go_sem]
          have hkc : kb ≠ W3.heap.size := by have := C.lt; omega
          have hcv : W3.heap.size ≠ vb := by have := hK1.lt; omega
          have C := C.below gY C.lt
          have hK1 := hK1.below gY
          have hcl : w.heap.size ≤ W3.heap.size := g.size
          have g := g.trans (gY.mono g.size)
          clear hY gY hl
          generalize W3.heap.size = cb at Z hfz hkc hcv hcl ⊢
          obtain ⟨x0, x1, x2, x3⟩ := C
          dsimp only at x0 x1 x2 x3
          go_wp2_with fail
          refine (ownRow_any xt xk xv xs0 _ hsz).mono ?_
          rintro e W5 ⟨rfl, g5⟩
          have C : RowC W5 kb 0 ⟨xt, xk, xv, xs0⟩ := RowC.below (w := Y2) ⟨x0, x1, x2, x3⟩ g5 (World.block_lt_of_cell? _ _ x0)
          have f5 := (g5.frozen (p := ⟨cb, 5, none⟩) Z.lt).trans (hfz 5)
          have f6 := (g5.frozen (p := ⟨cb, 6, none⟩) Z.lt).trans (hfz 6)
          have f7 := (g5.frozen (p := ⟨cb, 7, none⟩) Z.lt).trans (hfz 7)
          have f8 := (g5.frozen (p := ⟨cb, 8, none⟩) Z.lt).trans (hfz 8)
          have f9 := (g5.frozen (p := ⟨cb, 9, none⟩) Z.lt).trans (hfz 9)
          have Z := Z.below g5 Z.lt
          have hK1 := hK1.below g5
          have g := g.trans (g5.mono g.size)
          clear g5 x0 x1 x2 x3 hfz
          obtain ⟨x0, x1, x2, x3⟩ := C
          obtain ⟨z0, z1, z2, z3, z4, z5, z6, z7, z8, z9⟩ := Z
          dsimp only at x0 x1 x2 x3 z0 z1 z2 z3 z4 z5 z6 z7 z8 z9
          go_upto_region 12 with (fail)
          generalize hY : World.setCell _ _ _ = Y3
          have hkc' : cb ≠ kb := fun e => hkc e.symm
          have C : RowC Y3 kb 0 ⟨xt, xk, xv, xs0⟩ := by rw [← hY]; clear hY; exact ⟨by simp [go_sem, *], by simp [go_sem, *], by simp [go_sem, *], by simp [go_sem, *]⟩
          have Z : ChC Y3 cb 0 ⟨p0, ⟨pt, pk, pv, ps⟩, true, ⟨xt, xk, xv, xs0⟩⟩ := by rw [← hY]; clear hY; exact ⟨by simp [go_sem, *], by simp [go_sem, *], by simp [go_sem, *], by simp [go_sem, *], by simp [go_sem, *], by simp [go_sem, *], by simp [go_sem, *], by simp [go_sem, *], by simp [go_sem, *], by simp [go_sem, *]⟩
          have T3 : Turned cb (cb + 1) W5 Y3 := by
            rw [← hY]
            exact (((((Turned.refl _ _ _).setCell (p := ⟨cb, 5, none⟩) (Nat.le_refl _) (Nat.lt_succ_self _) _).setCell (p := ⟨cb, 6, none⟩) (Nat.le_refl _) (Nat.lt_succ_self _) _).setCell (p := ⟨cb, 7, none⟩) (Nat.le_refl _) (Nat.lt_succ_self _) _).setCell (p := ⟨cb, 8, none⟩) (Nat.le_refl _) (Nat.lt_succ_self _) _).setCell (p := ⟨cb, 9, none⟩) (Nat.le_refl _) (Nat.lt_succ_self _) _
          have hK1 : MapF 56 Y3 vb (chF bs (az.take j2)) sz2 := hK1.kept (row := some cb) ⟨T3.os, T3.tape, T3.output, T3.size, fun k hk hne => T3.block k hk (fun h => hne (by rw [show k = cb by omega]))⟩ (fun e => by injection e with e; exact hcv e.symm)
          have g : Below w.heap.size w Y3 := g.trans (T3.toBelow g.size hcl)
          clear hY T3 x0 x1 x2 x3 z0 z1 z2 z3 z4 z5 z6 z7 z8 z9 f5 f6 f7 f8 f9
          refine wp_region_held_drew (S := fun V => RowC V kb 0 ⟨xt, xk, xv, xs0⟩ ∧ ChC V cb 0 ⟨p0, ⟨pt, pk, pv, ps⟩, true, ⟨xt, xk, xv, xs0⟩⟩ ∧ Below w.heap.size w V) (by kernel_rfl) ⟨C.below (Below.refl _ _).drew C.lt, Z.below (Below.refl _ _).drew Z.lt, g.drew⟩ (fun hHeld => ?_)
          have hK1 := hK1.below (Below.refl _ _).drew
          generalize Y3.drew = D at hHeld hK1 ⊢
          clear C g Z
          refine wpAnyH_take (i := 0) (v := ?v5) rfl (by kernel_rfl) (by kernel_rfl) (by kernel_rfl) (fun _ _ _ h => h) (Or.inl ⟨by kernel_rfl, ?h5⟩) hHeld ?_
          case h5 => intro u hSw; obtain ⟨q0, q1, q2, q3⟩ := hSw.1; dsimp only at q0 q1 q2 q3; obtain ⟨v0, v1, v2, v3, v4, v5, v6, v7, v8, v9⟩ := hSw.2.1; dsimp only at v0 v1 v2 v3 v4 v5 v6 v7 v8 v9; clear hSw; go_simp; try with_reducible rfl
          try simp only [List.getElem_toArray]
          try simp only [List.getElem_cons_succ]
          try simp only [List.getElem_cons_zero]
          try simp only [Act.put]
          try simp only [List.setIfInBounds_toArray]
          try simp only [List.set]
          refine wpAnyH_take (i := 1) (v := ?v6) rfl (by kernel_rfl) (by kernel_rfl) (by kernel_rfl) (fun _ _ _ h => h) (Or.inl ⟨by kernel_rfl, ?h6⟩) hHeld ?_
          case h6 => intro u hSw; obtain ⟨q0, q1, q2, q3⟩ := hSw.1; dsimp only at q0 q1 q2 q3; obtain ⟨v0, v1, v2, v3, v4, v5, v6, v7, v8, v9⟩ := hSw.2.1; dsimp only at v0 v1 v2 v3 v4 v5 v6 v7 v8 v9; clear hSw; go_simp; try with_reducible rfl
          try simp only [List.getElem_toArray]
          try simp only [List.getElem_cons_succ]
          try simp only [List.getElem_cons_zero]
          try simp only [Act.put]
          try simp only [List.setIfInBounds_toArray]
          try simp only [List.set]
          refine wpAnyH_take (i := 3) (v := ?v7) rfl (by kernel_rfl) (by kernel_rfl) (by kernel_rfl) (fun _ _ _ h => h) (Or.inl ⟨by kernel_rfl, ?h7⟩) hHeld ?_
          case h7 => intro u hSw; obtain ⟨q0, q1, q2, q3⟩ := hSw.1; dsimp only at q0 q1 q2 q3; obtain ⟨v0, v1, v2, v3, v4, v5, v6, v7, v8, v9⟩ := hSw.2.1; dsimp only at v0 v1 v2 v3 v4 v5 v6 v7 v8 v9; clear hSw; go_simp; try with_reducible rfl
          try simp only [List.getElem_toArray]
          try simp only [List.getElem_cons_succ]
          try simp only [List.getElem_cons_zero]
          try simp only [Act.put]
          try simp only [List.setIfInBounds_toArray]
          try simp only [List.set]
          refine wpAnyH_ready (rs := [2]) (by kernel_rfl) (by simp) ?_
          refine AllReadyH.cons rfl (fun K hK => ?_) AllReadyH.nil
          go_simp
          go_wp2_with (go_at_call 36; refine (keyOf_any _ _ _ _ _).mono ?_; rintro e W7 ⟨rfl, gg⟩)
          refine hK.out _ _ (⟨hHeld.1.below gg hHeld.1.lt, hHeld.2.1.below gg hHeld.2.1.lt, hHeld.2.2.trans (gg.mono hHeld.2.2.size)⟩) (fun hHeld => ?_)
          clear hK K
          have hK1 := hK1.below gg
          clear gg
          try simp only [Act.put]
          try simp only [List.setIfInBounds_toArray]
          try simp only [List.set]
          obtain ⟨W8, e8, m8, t8⟩ := hK1.store keyT73 Try.underlying71 hKw.out (.agg #[.bool p0, .int .i64 pt, .int .i64 pk, .int .i64 pv, .string ps, .bool true, .int .i64 xt, .int .i64 xk, .int .i64 xv, .string xs0]) (by omega)
          simp only [kv] at e8
          have hlt1 := hK1.lt
          have gT := turned_below t8 hvb hlt1
          refine wpAnyH_ready (rs := [4]) (by kernel_rfl) (by simp) ?_
          refine AllReadyH.cons rfl (fun K hK => ?_) AllReadyH.nil
          go_simp
          refine hK.out _ _ ⟨hHeld.1.turn t8 hkv, hHeld.2.1.turn t8, hHeld.2.2.trans gT⟩ (fun hHeld => ?_)
          clear hK K e8
          try simp only [Act.put]
          try simp only [List.setIfInBounds_toArray]
          try simp only [List.set]
          refine wpAnyH_done (by kernel_rfl) ?_ _
          have g2 := hHeld.2.2
          have hK2 : MapF 56 W8 vb (chF bs (az.take (j2 + 1))) (nSz (chF bs (az.take j2) xt xk) sz2) := by rw [← HT.out]; exact m8
          have hsz2 : nSz (chF bs (az.take j2) xt xk) sz2 ≤ 1000 + (j2 + 1) := by have := nSz_le (chF bs (az.take j2) xt xk) sz2; omega
          clear hHeld
          go_wp2_with fail
          go_roundw
          case rel => exact ⟨j2 + 1, _, by omega, by go_num, hsz2, g2, hK2⟩
          case measure => simp [intOf]; omega
        · have e : j2 = n' := by omega
          subst e
          rw [List.take_of_length_le (by rw [HN'.out]; exact Nat.le_refl _)] at hK1
          have hrs := risingF_any vb sz2 (chF bs az) (bs.map (fun r => (r.t, r.k)) ++ az.map (fun r => (r.t, r.k))) wr hK1 (by omega) (by rw [List.length_append, List.length_map, List.length_map, HN.out, HN'.out]; omega) (fun x y h => chF_mem h)
          go_wp2_with fail
          refine hrs.mono ?_
          rintro e w4 ⟨ka, ys, kc, rfl, g4, hI, hRi, hD, hM⟩
          have HM : Hid (∀ x : K3, x ∈ ys ↔ (chF bs az x.x x.y).isSome = true) := hM
          have HRi : Hid (Rise ys) := hRi
          have HD : Hid (ys.Nodup) := hD
          have HL : Hid (ys.length ≤ 100000) := by
            have h1 := nodup_le (ys.map k2P) (bs.map (fun r => (r.t, r.k)) ++ az.map (fun r => (r.t, r.k))) (k2P_nodup hD) (fun q hq => by
              obtain ⟨x, hx, rfl⟩ := List.mem_map.1 hq
              exact chF_mem ((HM.out x).1 hx))
            rw [List.length_append, List.length_map, List.length_map, List.length_map, HN.out, HN'.out] at h1
            show _ ≤ _
            omega
          have HI : Hid (Rs k2F 2 w4 ka ys) := hI.reads
          have HKx : Hid (MapF 56 w4 vb (chF bs az) sz2) := hK1.below g4
          have g4 := g.trans (g4.mono g.size)
          clear hRi hD hM hI hK1 g hrs
          obtain ⟨nn, hnn⟩ : ∃ nn, ys.length = nn := ⟨_, rfl⟩
          have HNN : Hid (ys.length = nn) := hnn
          have hn9 : nn ≤ 100000 := by rw [← hnn]; exact HL.out
          rw [hnn]
          clear hnn HL
          go_wp2_with fail
          go_loopw [50, 11] (fun i v wr => ∃ j : Nat, j ≤ nn ∧ i = .int .i64 j ∧ Below w4.heap.size w4 wr ∧ wr.ownsRow w4.heap.size 51 10 v ((ys.take j).filterMap (fun x => chK bs az x.x x.y)).length (flat chE ((ys.take j).filterMap (fun x => chK bs az x.x x.y)))) (fun i _ _ => nn - (intOf i).toNat)
          case atStart => exact ⟨0, Nat.zero_le _, rfl, Below.refl _ _, ownsRow_nil _ _ _ _⟩
          case round =>
            obtain ⟨j3, hj3, rfl, gr, ho⟩ := hrel
            by_cases hlt3 : j3 < nn
            · obtain ⟨x, hx⟩ : ∃ x, ys[j3]? = some x := ⟨_, List.getElem?_eq_getElem (by rw [HNN.out]; exact hlt3)⟩
              obtain ⟨kb, ko, rfl, k0, k1⟩ := HI.out.k2 hx
              have hkl := World.block_lt_of_cell? _ _ k0
              have k0 := (gr.cell hkl).trans k0
              have k1 := (gr.cell (p := ⟨kb, ko + j3 * 2 + 1, none⟩) hkl).trans k1
              have hxm := List.mem_of_getElem? hx
              obtain ⟨y, hy⟩ : ∃ y, chAt bs az x.x x.y = some y := by
                have h1 := (HM.out x).1 hxm
                unfold chF at h1
                cases hc : chAt bs az x.x x.y with
                | none => rw [hc] at h1; cases h1
                | some y => exact ⟨y, rfl⟩
              have hKr := HKx.out.below gr
              have hl := fun (V : World) (hV : Below wr.heap.size wr V) => (hKr.below hV).look keyT73 Try.underlying71 (Try.zeroValue51 V) x.h
              have hFy : chF bs az x.x x.y = some (chV y) := by unfold chF; rw [hy]; rfl
              rw [hFy] at hl
              simp only [Option.getD_some, chV, kv] at hl
              have hjn3 : (j3 : Int) < (nn : Int) := by omega
              have HT0 : Hid (nthB y = true → (ys.take (j3 + 1)).filterMap (fun x => chK bs az x.x x.y) = (ys.take j3).filterMap (fun x => chK bs az x.x x.y)) := fun hb => by rw [take_snoc hx, List.filterMap_append, List.filterMap_cons, chK_nth hy, if_pos hb]; simp
              have HT1 : Hid (¬ nthB y = true → (ys.take (j3 + 1)).filterMap (fun x => chK bs az x.x x.y) = (ys.take j3).filterMap (fun x => chK bs az x.x x.y) ++ [y]) := fun hb => by rw [take_snoc hx, List.filterMap_append, List.filterMap_cons, chK_nth hy, if_neg hb]; simp
              have hlen : ((ys.take j3).filterMap (fun x => chK bs az x.x x.y)).length + 1 ≤ 100000000 := by
                have h1 := List.length_filterMap_le (fun x : K3 => chK bs az x.x x.y) (ys.take j3)
                rw [List.length_take] at h1
                omega
              have HL2 : Hid (∀ V, Below wr.heap.size wr V → _) := hl
              clear hx hxm hl hy hKr hFy
              generalize (ys.take j3).filterMap (fun x => chK bs az x.x x.y) = cs at ho HT0 HT1 hlen
              obtain ⟨y0, ⟨yt, yk, yv, yst⟩, y5, ⟨zt, zk, zv, zst⟩⟩ := y
              obtain ⟨xt, xk, xh⟩ := x
              dsimp only at k0 k1 HL2
              have hgs := gr.size
              go_upto_region 18 with (fail)
              generalize hY : World.alloc _ _ = Y
              have gY : Below wr.heap.size wr Y := by rw [← hY]; go_grown
              have v0 : Y.cell? ⟨wr.heap.size, 0, none⟩ = some (.int .i64 xt) := by rw [← hY]; simp [go_sem]
              have v1 : Y.cell? ⟨wr.heap.size, 1, none⟩ = some (.int .i64 xk) := by rw [← hY]; simp [go_sem]
              have hl := HL2.out Y gY
              have hlow : ∀ k, u11.ownBlock = some k → w4.heap.size ≤ k := fun k hk => (ho.lt k hk).1
              have ho := ownsRow_below ho gY
              have gr := gr.trans (gY.mono gr.size)
              have hcY : wr.heap.size < Y.heap.size := World.block_lt_of_cell? _ _ v0
              clear hY k0 k1
              generalize wr.heap.size = cb at v0 v1 hcY gY HL2 ⊢
              go_wp2_with fail
              refine (isNothing_any y0 yt yk yv yst y5 zt zk zv zst _).mono ?_
              rintro e Z ⟨rfl, g5⟩
              have v0 := (g5.cell hcY).trans v0
              have v1 := (g5.cell (p := ⟨cb, 1, none⟩) hcY).trans v1
              have hl := HL2.out Z (gY.trans (g5.mono (Nat.le_of_lt hcY)))
              have ho := ownsRow_below ho g5
              have gr := gr.trans (g5.mono gr.size)
              have hgs2 := gr.size
              clear gY g5 hcY HL2
              by_cases hb : nthB ⟨y0, ⟨yt, yk, yv, yst⟩, y5, ⟨zt, zk, zv, zst⟩⟩ = true
              · rw [hb]
                have ho2 : Z.ownsRow w4.heap.size 51 10 u11 ((ys.take (j3 + 1)).filterMap (fun x => chK bs az x.x x.y)).length (flat chE ((ys.take (j3 + 1)).filterMap (fun x => chK bs az x.x x.y))) := by rw [HT0.out hb]; exact ho
                clear ho hl v0 v1 hb HT0 HT1
                go_wp2_with fail
                go_roundw
                case rel => exact ⟨j3 + 1, by omega, by go_num, gr, ho2⟩
                case measure => simp [intOf]; omega
              · have HT := HT1.out hb
                rw [show nthB ⟨y0, ⟨yt, yk, yv, yst⟩, y5, ⟨zt, zk, zv, zst⟩⟩ = false by simpa using hb]
                have HT : Hid ((ys.take (j3 + 1)).filterMap (fun x => chK bs az x.x x.y) = cs ++ [⟨y0, ⟨yt, yk, yv, yst⟩, y5, ⟨zt, zk, zv, zst⟩⟩]) := HT
                clear HT0 HT1 hb
                go_wp2_with (at_builtin; refine wpList_append_sl elC _ rfl _ _ rfl w4.heap.size _ cs [⟨y0, ⟨yt, yk, yv, yst⟩, y5, ⟨zt, zk, zv, zst⟩⟩] (some ⟨Z.heap.size, 0, none⟩) 1 1 rfl rfl rfl (ownsRow_below ho (by go_grown)) (rs_one (enc := chE) Z ⟨y0, ⟨yt, yk, yv, yst⟩, y5, ⟨zt, zk, zv, zst⟩⟩ 51) hlen (by simp; omega) ?_)
                intro v' w' ho' hg' _
                have ho2 : w'.ownsRow w4.heap.size 51 10 v' ((ys.take (j3 + 1)).filterMap (fun x => chK bs az x.x x.y)).length (flat chE ((ys.take (j3 + 1)).filterMap (fun x => chK bs az x.x x.y))) := by rw [HT.out, List.length_append]; exact ho'
                have gr2 : Below w4.heap.size w4 w' := Below.grown (gr.trans ((((Below.refl _ Z).alloc (Nat.le_refl _) _)).mono gr.size)) hg' (by simp; omega) hlow
                clear ho' hg' ho v0 v1 hl gr
                go_wp2_with fail
                go_roundw
                case rel => exact ⟨j3 + 1, by omega, by go_num, gr2, ho2⟩
                case measure => simp [intOf]; omega
            · have hjn3 : ¬ (j3 : Int) < (nn : Int) := by omega
              have HRw : Hid ((ys.take j3).filterMap (fun x => chK bs az x.x x.y) = ys.filterMap (fun x => chK bs az x.x x.y)) := by show _ = _; rw [List.take_of_length_le (by rw [HNN.out]; omega)]
              have HO : Hid (wr.ownsRow w4.heap.size 51 10 u11 (ys.filterMap (fun x => chK bs az x.x x.y)).length (flat chE (ys.filterMap (fun x => chK bs az x.x x.y)))) := by show World.ownsRow _ _ _ _ _ _ _; rw [← HRw.out]; exact ho
              have hs4 := g4.size
              clear ho HRw
              have HFin : Hid (CbPost bs az w (.returned u11) wr) := cbPost_mk (g4.trans (gr.mono g4.size)) (ownsRow_base HO.out hs4) HRi.out HD.out HM.out
              clear HO HRi HD HM HKx HI HNN
              go_wp2_with fail
              go_ret
              exact HFin.out

end Go.Proofs.Ythhkgpflodeleaa
