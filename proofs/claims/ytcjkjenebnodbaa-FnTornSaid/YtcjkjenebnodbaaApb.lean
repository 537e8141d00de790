/-
  Bytes appended to bytes of one's own, from whatever slice; slices.Grow of nil, slices.Concat of two, bytes.Clone, l2Copy.
-/
import Derived.Test.YtcjkjenebnodbaaCln
import Derived.Maps.AppendAt
import Derived.Lib.AppendZeros
namespace Go.Proofs.Ytcjkjenebnodbaa
open Go.RowKit
set_option linter.unusedVariables false

theorem run_append_none_any {P : Program} (w : World) (base : Nat) (t ty e : TypeId) (i : TypeInfo) (size c : Nat) (ht : P.underlying t = some (.slice e)) (hi : P.info? e = some i)
    (v : Value) (n : Nat) (xs : List Value) (hown : w.ownsRow base e size v n xs) : (Builtin.append_ #[t, t] ty #[v, .slice none 0 c]).run P w = .ok v w := by
  rcases hown.2 with ⟨rfl, rfl⟩ | ⟨g, cap, cur, rfl, _, _, hnc, _⟩
  · simp [Builtin.append_, run_underlying ht, sizeOf, typeInfo, hi, Builtin.lenOf, Builtin.firstCells]
  · simp [Builtin.append_, run_underlying ht, sizeOf, typeInfo, hi, Builtin.lenOf, Builtin.firstCells, hnc, storeCells]

theorem run_append_bytes (w : World) (base : Nat) (ty : TypeId) (v : Value) (us zs : List Int) (x : Option Addr) (c : Nat) (hown : Gb base w v us) (hr : Reads w x zs) (hl : us.length + zs.length ≤ 100000000) (hb : base ≤ w.heap.size) :
    ∃ v' w', (Builtin.append_ #[22, 22] ty #[v, .slice x zs.length c]).run Try.prog w = .ok v' w' ∧ Gb base w' v' (us ++ zs) ∧ w.grownBy w' v.ownBlock ∧ (v'.ownBlock = v.ownBlock ∨ v'.ownBlock = some w.heap.size) := by
  obtain ⟨i0, hi0, hz0, hz1, hz2⟩ := info5
  have fin : ∀ (a : Addr), x = some a → (∀ j u, (zs.map (Value.int .u8))[j]? = some u → w.cell? (a.add j) = some u) → ∃ v' w', (Builtin.append_ #[22, 22] ty #[v, .slice x zs.length c]).run Try.prog w = .ok v' w' ∧ Gb base w' v' (us ++ zs) ∧ w.grownBy w' v.ownBlock ∧ (v'.ownBlock = v.ownBlock ∨ v'.ownBlock = some w.heap.size) := fun a ha hc => by
    subst ha
    obtain ⟨v', w', h1, h2, h3, _, h5⟩ := run_append_own_at (P := Try.prog) w base 22 ty 5 i0 (.int .u8 0) 1 1 Try.underlying22 hi0 hz0 hz1 hz2 rfl (by decide) v us.length (us.map (Value.int .u8)) hown a zs.length c (zs.map (Value.int .u8)) (by simp) hc (ones _) (by unfold maxLen; omega) (by omega) hb
    exact ⟨v', w', h1, by unfold Gb; rw [List.length_append, List.map_append]; exact h2, h3, h5⟩
  rcases hr with h | ⟨b, off, ha, hc⟩
  · subst h
    cases x with
    | some a => exact fin a rfl (fun j u h => by simp at h)
    | none => exact ⟨v, w, run_append_none_any w base 22 ty 5 i0 1 c Try.underlying22 hi0 v us.length _ hown, by rw [List.append_nil]; exact hown, ⟨rfl, rfl, rfl, Nat.le_refl _, fun _ _ _ => rfl⟩, .inl rfl⟩
  · exact fin ⟨b, off, none⟩ ha (news_at hc)

theorem wp_append_bytes (w : World) {o : Oper} {a : Act} {K : Act → World → Prop} {Q : Exit → Act → World → Prop} (s x : Operand)
    (ho : o.op = .call { callee := .builtin .append, args := #[s, x], argTypes := #[22, 22] }) (base : Nat) (v : Value) (us zs : List Int) (ax : Option Addr) (n c : Nat) (hs : a.eval s = v) (hx : a.eval x = .slice ax n c) (hn : zs.length = n)
    (hown : Gb base w v us) (hr : Reads w ax zs) (hl : us.length + zs.length ≤ 100000000) (hb : base ≤ w.heap.size)
    (h : ∀ v' w', Gb base w' v' (us ++ zs) → w.grownBy w' v.ownBlock → (v'.ownBlock = v.ownBlock ∨ v'.ownBlock = some w.heap.size) → K (a.put o.dst v') w') : o.wp Try.prog a w K Q := by
  subst hn
  obtain ⟨v', w', h1, h2, h3, h4⟩ := run_append_bytes w base o.type v us zs ax c hown hr hl hb
  exact Go.Lib.wp_append_run w s x 22 22 ho v _ hs hx v' w' h1 (h v' w' h2 h3 h4)

theorem wpList_append_bytes (w : World) {ops : Array Oper} {rest : List Oper} {o : Oper} {a : Act} {Q : Exit → Act → World → Prop} (hgd : o.guard = none) (s x : Operand)
    (ho : o.op = .call { callee := .builtin .append, args := #[s, x], argTypes := #[22, 22] }) (base : Nat) (v : Value) (us zs : List Int) (ax : Option Addr) (n c : Nat) (hs : a.eval s = v) (hx : a.eval x = .slice ax n c) (hn : zs.length = n)
    (hown : Gb base w v us) (hr : Reads w ax zs) (hl : us.length + zs.length ≤ 100000000) (hb : base ≤ w.heap.size)
    (h : ∀ v' w', Gb base w' v' (us ++ zs) → w.grownBy w' v.ownBlock → (v'.ownBlock = v.ownBlock ∨ v'.ownBlock = some w.heap.size) → wpList Try.prog ops Q rest (a.put o.dst v') w') : wpList Try.prog ops Q (o :: rest) a w :=
  wpList_plain hgd fun _ hK => wp_append_bytes w s x ho base v us zs ax n c hs hx hn hown hr hl hb (fun v' w' h1 h2 h3 => hK _ _ (h v' w' h1 h2 h3))

theorem Gb.shape {base : Nat} {w : World} {v : Value} {xs : List Int} (h : Gb base w v xs) : ∃ a c, v = .slice a xs.length c ∧ xs.length ≤ c ∧ c ≤ 9223372036854775807 ∧ BytesIn base w.heap.size w a xs ∧ (a = none → c = 0) := by
  have hml : maxLen = 9223372036854775807 := by decide
  have h' := h
  unfold Gb at h'
  rcases h'.2 with ⟨e, h0⟩ | ⟨g, cap, cur, e, h1, h2, h3, h4, _⟩
  · exact ⟨none, 0, by rw [e, h0], by omega, by omega, .inl (List.eq_nil_of_length_eq_zero h0), fun _ => rfl⟩
  · refine ⟨_, cap, e, h3, by omega, ?_, fun h => by cases h⟩
    rw [e] at h'
    exact bytesIn_owns h'

theorem Gb.nil (base : Nat) (w : World) : Gb base w (.slice none 0 0) [] := World.ownsRow_nil _ _ _ _
theorem Gb.lit (base : Nat) (w : World) (h : base ≤ w.heap.size) : Gb base (w.alloc (.cells #[] 5)) (.slice (some ⟨w.heap.size, 0, none⟩) 0 0) [] := World.ownsRow_lit (base := base) (e := 5) (size := 1) w #[] 0 h (by unfold maxLen; omega) rfl

set_option maxHeartbeats 400000 in
theorem l2Copy_gen (x : Option Addr) (zs : List Int) (n c : Nat) (w : World) (hn : zs.length = n) (hm : n ≤ 10000000) (hr : Reads w x zs) :
    Calls Try.prog 119 #[.slice x n c] w fun e w' => ∃ v, e = .returned v ∧ Below w.heap.size w w' ∧ Gb w.heap.size w' v zs := by
  have HR : Hid (Reads w x zs) := hr
  have HN : Hid (zs.length = n) := hn
  clear hr hn
  have g0 : Below w.heap.size w (w.alloc (.cells #[] 5)) := by go_grown
  have hG := Gb.lit w.heap.size w (Nat.le_refl _)
  go_enter Try.func119, Try.ntmps119
  go_wp2_with (at_builtin; refine wpList_append_bytes _ rfl _ _ rfl w.heap.size _ [] zs x n c rfl rfl HN.out hG (HR.out.below g0 (Nat.le_refl _)) ?n1 ?n2 ?_)
  case n1 => rw [HN.out]; simp; omega
  case n2 => simp
  intro v' w6 hown' hgrow hat
  have g6 : Below w.heap.size w w6 := Below.grown g0 hgrow (by simp) (fun q e => by simp [Value.ownBlock] at e; omega)
  clear hgrow hG g0 hat
  go_wp2_with fail
  go_ret
  exact ⟨v', rfl, g6, hown'⟩

set_option maxHeartbeats 400000 in
theorem clone_gen (x : Option Addr) (zs : List Int) (n c : Nat) (w : World) (hn : zs.length = n) (hm : n ≤ 10000000) (hr : Reads w x zs) (hxc : x = none → c = 0) :
    Calls Try.prog 77 #[.slice x n c] w fun e w' => ∃ v, e = .returned v ∧ Below w.heap.size w w' ∧ Gb w.heap.size w' v zs := by
  have HR : Hid (Reads w x zs) := hr
  have HN : Hid (zs.length = n) := hn
  cases x with
  | none =>
    have hz : zs = [] := by
      rcases hr with h | ⟨_, _, h, _⟩
      · exact h
      · cases h
    subst hz
    have hn0 : n = 0 := by simpa using hn.symm
    have hc0 := hxc rfl
    subst hn0 hc0
    have hEq : ∀ W : World, (binOp .eql 22 (.slice none 0 0) (.slice none 0 0)).run Try.prog W = .ok (.bool true) W := fun W => by kernel_rfl
    clear hr hn HR HN
    go_enter Try.func77, Try.ntmps77
    go_wp2_with fail
    go_ret
    exact ⟨_, rfl, Below.refl _ _, Gb.nil _ _⟩
  | some a =>
    clear hr hn
    have g0 : Below w.heap.size w (w.alloc (.cells #[] 5)) := by go_grown
    have hG := Gb.lit w.heap.size w (Nat.le_refl _)
    have hEq : ∀ W : World, (binOp .eql 22 (.slice (some a) n c) (.slice none 0 0)).run Try.prog W = .ok (.bool false) W := fun W => by kernel_rfl
    go_enter Try.func77, Try.ntmps77
    go_wp2_with (at_builtin; refine wpList_append_bytes _ rfl _ _ rfl w.heap.size _ [] zs (some a) n c rfl rfl HN.out hG (HR.out.below g0 (Nat.le_refl _)) ?n1 ?n2 ?_)
    case n1 => rw [HN.out]; simp; omega
    case n2 => simp
    intro v' w6 hown' hgrow hat
    have g6 : Below w.heap.size w w6 := Below.grown g0 hgrow (by simp) (fun q e => by simp [Value.ownBlock] at e; omega)
    clear hgrow hG g0 hat
    go_wp2_with fail
    go_ret
    exact ⟨v', rfl, g6, hown'⟩

set_option maxRecDepth 20000 in
set_option maxHeartbeats 400000 in
theorem grow_nil (n : Nat) (w : World) (hn : n ≤ 100000000) :
    Calls Try.prog 115 #[.slice none 0 0, .int .i64 n] w fun e w' => ∃ v, e = .returned v ∧ Below w.heap.size w w' ∧ Gb w.heap.size w' v [] := by
  obtain ⟨i0, hi0, hz0, hz1, hz2⟩ := info5
  by_cases h0 : n = 0
  · subst h0
    go_enter Try.func115, Try.ntmps115
    go_wp2_with fail
    go_ret
    exact ⟨_, rfl, Below.refl _ _, Gb.nil _ _⟩
  · have hp : (0 : Int) < (n : Int) := by omega
    have hneg : ¬ ((n : Int) < 0) := by omega
    have hr := Go.Lib.run_append_nil_zeros (P := Try.prog) w 22 3 22 5 i0 (.int .u8 0) .i64 .i64 Try.underlying22 Try.underlying3 hi0 hz0 n (by omega) (by omega) (by omega) (by rw [hz2]; omega)
    go_enter Try.func115, Try.ntmps115
    go_wp2_with (at_builtin; refine Go.Lib.wpList_append_run _ rfl _ _ 22 3 rfl _ _ rfl rfl _ _ hr ?_)
    go_ret
    have hge := grownCap_ge w n 0 5
    have hcm : grownCap w n 0 5 ≤ maxLen := grownCap_le_maxLen w n 0 5 (by unfold maxLen; omega)
    refine ⟨_, rfl, by go_grown, ⟨rfl, .inr ⟨w.heap.size, _, _, rfl, Nat.le_refl _, heap_alloc_new w _, Nat.zero_le _, hcm, ?_, rfl⟩⟩⟩
    rw [Array.size_append, size_zeroCells, size_zeroCells]
    simp
    omega

/-- Block b holds two slices. -/
structure TwoAt (V : World) (b : Nat) (x : Option Addr) (n c : Nat) (y : Option Addr) (m d : Nat) : Prop where
  c0 : V.cell? ⟨b, 0, none⟩ = some (.slice x n c)
  c1 : V.cell? ⟨b, 1, none⟩ = some (.slice y m d)

set_option maxRecDepth 20000 in
set_option maxHeartbeats 1000000 in
theorem concat_two (b : Nat) (x y : Option Addr) (xs ys : List Int) (n c m d : Nat) (w : World) (hn : xs.length = n) (hm : ys.length = m) (hn1 : n ≤ 10000000) (hm1 : m ≤ 10000000) (hx : Reads w x xs) (hy : Reads w y ys) (r : TwoAt w b x n c y m d) :
    Calls Try.prog 78 #[.slice (some ⟨b, 0, none⟩) 2 2] w fun e w' => ∃ v, e = .returned v ∧ Below w.heap.size w w' ∧ Gb w.heap.size w' v (xs ++ ys) := by
  have HX : Hid (Reads w x xs) := hx
  have HY : Hid (Reads w y ys) := hy
  have HN : Hid (xs.length = n) := hn
  have HM : Hid (ys.length = m) := hm
  clear hx hy hn hm
  have HR : Hid (TwoAt w b x n c y m d) := r
  have HG : Hid (Calls Try.prog 115 #[.slice none 0 0, .int .i64 ((n : Int) + (m : Int))] w fun e w' => ∃ v, e = .returned v ∧ Below w.heap.size w w' ∧ Gb w.heap.size w' v []) := by
    have := grow_nil (n + m) w (by omega)
    rw [Int.natCast_add] at this
    exact this
  obtain ⟨r0, r1⟩ := r
  have p1 : ¬ ((n : Int) < 0) := by omega
  have p2 : ¬ ((n : Int) + (m : Int) < 0) := by omega
  go_enter Try.func78, Try.ntmps78
  go_wp2_with fail
  refine wp_loop_rounds 3 ?_
  rw [rounds_succ]
  go_wp2_with fail
  rw [rounds_succ]
  go_wp2_with fail
  rw [rounds_succ]
  go_wp2_with fail
  refine HG.out.mono ?_
  rintro e w1 ⟨v1, rfl, g1, hG1⟩
  have r0 := (g1.cell (World.block_lt_of_cell? w _ HR.out.c0)).trans HR.out.c0
  have r1 := (g1.cell (World.block_lt_of_cell? w _ HR.out.c1)).trans HR.out.c1
  have hs1 := g1.size
  have HX1 : Hid (Reads w1 x xs) := HX.out.below g1 (Nat.le_refl _)
  go_wp2_with fail
  refine wp_loop_rounds 3 ?_
  rw [rounds_succ]
  go_wp2_with (at_builtin; refine wpList_append_bytes _ rfl _ _ rfl w.heap.size _ [] xs x n c rfl rfl HN.out hG1 HX1.out ?n1 ?n2 ?_)
  case n1 => rw [HN.out]; simp; omega
  case n2 => omega
  intro v2 w2 hG2 hgr2 hat2
  have g2 : Below w.heap.size w w2 := Below.grown g1 hgr2 hs1 (fun q e => (World.ownsRow.lt hG1 q e).1)
  have hG2 : Gb w.heap.size w2 v2 xs := hG2
  clear hgr2 hat2 hG1 g1 r0 r1 HX1
  have r0 := (g2.cell (World.block_lt_of_cell? w _ HR.out.c0)).trans HR.out.c0
  have r1 := (g2.cell (World.block_lt_of_cell? w _ HR.out.c1)).trans HR.out.c1
  have hs2 := g2.size
  have HY2 : Hid (Reads w2 y ys) := HY.out.below g2 (Nat.le_refl _)
  go_wp2_with fail
  rw [rounds_succ]
  go_wp2_with (at_builtin; refine wpList_append_bytes _ rfl _ _ rfl w.heap.size _ xs ys y m d rfl rfl HM.out hG2 HY2.out ?n1 ?n2 ?_)
  case n1 => rw [HN.out, HM.out]; omega
  case n2 => omega
  intro v3 w3 hG3 hgr3 hat3
  have g3 : Below w.heap.size w w3 := Below.grown g2 hgr3 hs2 (fun q e => (World.ownsRow.lt hG2 q e).1)
  clear hgr3 hat3 hG2 g2 r0 r1 HY2
  go_wp2_with fail
  rw [rounds_succ]
  go_wp2_with fail
  go_ret
  exact ⟨_, rfl, g3, hG3⟩

end Go.Proofs.Ytcjkjenebnodbaa
