/-
  Bytes appended to bytes of one's own, from whatever slice; slices.Grow of nil, slices.Concat of two, bytes.Clone, l2Copy.
-/
import Derived.Test.YtcjkjenebnodbaaDoorSDBnt
import Derived.Maps.AppendAt
import Derived.Lib.AppendZeros

namespace Go.Proofs.YtcjkjenebnodbaaDoor
open Go.RowKit
set_option linter.unusedVariables false

theorem run_append_none_any {P : Program} (w : World) (base : Nat) (t ty e : TypeId) (i : TypeInfo) (size c : Nat) (ht : P.underlying t = some (.slice e)) (hi : P.info? e = some i)
    (v : Value) (n : Nat) (xs : List Value) (hown : w.ownsRow base e size v n xs) : (Builtin.append_ #[t, t] ty #[v, .slice none 0 c]).run P w = .ok v w := by
  rcases hown.2 with ⟨rfl, rfl⟩ | ⟨g, cap, cur, rfl, _, _, hnc, _⟩
  · simp [Builtin.append_, run_underlying ht, sizeOf, typeInfo, hi, Builtin.lenOf, Builtin.firstCells]
  · simp [Builtin.append_, run_underlying ht, sizeOf, typeInfo, hi, Builtin.lenOf, Builtin.firstCells, hnc, storeCells]

theorem run_append_bytes (w : World) (base : Nat) (ty : TypeId) (v : Value) (us zs : List Int) (x : Option Addr) (c : Nat) (hown : Gb base w v us) (hr : Reads w x zs) (hl : us.length + zs.length ≤ 100000000) (hb : base ≤ w.heap.size) :
    ∃ v' w', (Builtin.append_ #[22, 22] ty #[v, .slice x zs.length c]).run Tryd.prog w = .ok v' w' ∧ Gb base w' v' (us ++ zs) ∧ w.grownBy w' v.ownBlock ∧ (v'.ownBlock = v.ownBlock ∨ v'.ownBlock = some w.heap.size) := by
  obtain ⟨i0, hi0, hz0, hz1, hz2⟩ := info5
  have fin : ∀ (a : Addr), x = some a → (∀ j u, (zs.map (Value.int .u8))[j]? = some u → w.cell? (a.add j) = some u) → ∃ v' w', (Builtin.append_ #[22, 22] ty #[v, .slice x zs.length c]).run Tryd.prog w = .ok v' w' ∧ Gb base w' v' (us ++ zs) ∧ w.grownBy w' v.ownBlock ∧ (v'.ownBlock = v.ownBlock ∨ v'.ownBlock = some w.heap.size) := fun a ha hc => by
    subst ha
    obtain ⟨v', w', h1, h2, h3, _, h5⟩ := run_append_own_at (P := Tryd.prog) w base 22 ty 5 i0 (.int .u8 0) 1 1 Tryd.underlying22 hi0 hz0 hz1 hz2 rfl (by decide) v us.length (us.map (Value.int .u8)) hown a zs.length c (zs.map (Value.int .u8)) (by simp) hc (ones _) (by unfold maxLen; omega) (by omega) hb
    exact ⟨v', w', h1, by unfold Gb; rw [List.length_append, List.map_append]; exact h2, h3, h5⟩
  rcases hr with h | ⟨b, off, ha, hc⟩
  · subst h
    cases x with
    | some a => exact fin a rfl (fun j u h => by simp at h)
    | none => exact ⟨v, w, run_append_none_any w base 22 ty 5 i0 1 c Tryd.underlying22 hi0 v us.length _ hown, by rw [List.append_nil]; exact hown, ⟨rfl, rfl, rfl, Nat.le_refl _, fun _ _ _ => rfl⟩, .inl rfl⟩
  · exact fin ⟨b, off, none⟩ ha (news_at hc)

theorem wp_append_bytes (w : World) {o : Oper} {a : Act} {K : Act → World → Prop} {Q : Exit → Act → World → Prop} (s x : Operand)
    (ho : o.op = .call { callee := .builtin .append, args := #[s, x], argTypes := #[22, 22] }) (base : Nat) (v : Value) (us zs : List Int) (ax : Option Addr) (n c : Nat) (hs : a.eval s = v) (hx : a.eval x = .slice ax n c) (hn : zs.length = n)
    (hown : Gb base w v us) (hr : Reads w ax zs) (hl : us.length + zs.length ≤ 100000000) (hb : base ≤ w.heap.size)
    (h : ∀ v' w', Gb base w' v' (us ++ zs) → w.grownBy w' v.ownBlock → (v'.ownBlock = v.ownBlock ∨ v'.ownBlock = some w.heap.size) → K (a.put o.dst v') w') : o.wp Tryd.prog a w K Q := by
  subst hn
  obtain ⟨v', w', h1, h2, h3, h4⟩ := run_append_bytes w base o.type v us zs ax c hown hr hl hb
  exact Go.Lib.wp_append_run w s x 22 22 ho v _ hs hx v' w' h1 (h v' w' h2 h3 h4)

theorem wpList_append_bytes (w : World) {ops : Array Oper} {rest : List Oper} {o : Oper} {a : Act} {Q : Exit → Act → World → Prop} (hgd : o.guard = none) (s x : Operand)
    (ho : o.op = .call { callee := .builtin .append, args := #[s, x], argTypes := #[22, 22] }) (base : Nat) (v : Value) (us zs : List Int) (ax : Option Addr) (n c : Nat) (hs : a.eval s = v) (hx : a.eval x = .slice ax n c) (hn : zs.length = n)
    (hown : Gb base w v us) (hr : Reads w ax zs) (hl : us.length + zs.length ≤ 100000000) (hb : base ≤ w.heap.size)
    (h : ∀ v' w', Gb base w' v' (us ++ zs) → w.grownBy w' v.ownBlock → (v'.ownBlock = v.ownBlock ∨ v'.ownBlock = some w.heap.size) → wpList Tryd.prog ops Q rest (a.put o.dst v') w') : wpList Tryd.prog ops Q (o :: rest) a w :=
  wpList_plain hgd fun _ hK => wp_append_bytes w s x ho base v us zs ax n c hs hx hn hown hr hl hb (fun v' w' h1 h2 h3 => hK _ _ (h v' w' h1 h2 h3))

theorem Gb.shape {base : Nat} {w : World} {v : Value} {xs : List Int} (h : Gb base w v xs) : ∃ a c, v = .slice a xs.length c ∧ xs.length ≤ c ∧ c ≤ 9223372036854775807 ∧ BytesIn base w.heap.size w a xs ∧ (a = none → c = 0) := by
  have hml : maxLen = 9223372036854775807 := by decide
  have h' := h
  unfold Gb at h'
  rcases h'.2 with ⟨e, h0⟩ | ⟨g, cap, cur, e, h1, h2, h3, h4, _⟩
  · exact ⟨none, 0, by rw [e, h0], by omega, by omega, .inl (List.eq_nil_of_length_eq_zero h0), fun _ => rfl⟩
  · refine ⟨_, cap, e, h3, by omega, ?_, fun h => by cases h⟩
    rw [e] at h'
    exact bytesIn_owns h'

theorem Gb.nil (base : Nat) (w : World) : Gb base w (.slice none 0 0) [] := World.ownsRow_nil _ _ _ _
theorem Gb.lit (base : Nat) (w : World) (h : base ≤ w.heap.size) : Gb base (w.alloc (.cells #[] 5)) (.slice (some ⟨w.heap.size, 0, none⟩) 0 0) [] := World.ownsRow_lit (base := base) (e := 5) (size := 1) w #[] 0 h (by unfold maxLen; omega) rfl

set_option maxHeartbeats 400000 in
theorem l2Copy_gen (x : Option Addr) (zs : List Int) (n c : Nat) (w : World) (hn : zs.length = n) (hm : n ≤ 10000000) (hr : Reads w x zs) :
    Calls Tryd.prog 50 #[.slice x n c] w fun e w' => ∃ v, e = .returned v ∧ Below w.heap.size w w' ∧ Gb w.heap.size w' v zs := by
  have HR : Hid (Reads w x zs) := hr
  have HN : Hid (zs.length = n) := hn
  clear hr hn
  have g0 : Below w.heap.size w (w.alloc (.cells #[] 5)) := by go_grown
  have hG := Gb.lit w.heap.size w (Nat.le_refl _)
  go_enter Tryd.func50, Tryd.ntmps50
  go_wp2_with (at_builtin; refine wpList_append_bytes _ rfl _ _ rfl w.heap.size _ [] zs x n c rfl rfl HN.out hG (HR.out.below g0 (Nat.le_refl _)) ?n1 ?n2 ?_)
  case n1 => rw [HN.out]; simp; omega
  case n2 => simp
  intro v' w6 hown' hgrow hat
  have g6 : Below w.heap.size w w6 := Below.grown g0 hgrow (by simp) (fun q e => by simp [Value.ownBlock] at e; omega)
  clear hgrow hG g0 hat
  go_wp2_with fail
  go_ret
  exact ⟨v', rfl, g6, hown'⟩

set_option maxHeartbeats 400000 in
theorem clone_gen (x : Option Addr) (zs : List Int) (n c : Nat) (w : World) (hn : zs.length = n) (hm : n ≤ 10000000) (hr : Reads w x zs) (hxc : x = none → c = 0) :
    Calls Tryd.prog 48 #[.slice x n c] w fun e w' => ∃ v, e = .returned v ∧ Below w.heap.size w w' ∧ Gb w.heap.size w' v zs := by
  have HR : Hid (Reads w x zs) := hr
  have HN : Hid (zs.length = n) := hn
  cases x with
  | none =>
    have hz : zs = [] := by
      rcases hr with h | ⟨_, _, h, _⟩
      · exact h
      · cases h
    subst hz
    have hn0 : n = 0 := by simpa using hn.symm
    have hc0 := hxc rfl
    subst hn0 hc0
    have hEq : ∀ W : World, (binOp .eql 22 (.slice none 0 0) (.slice none 0 0)).run Tryd.prog W = .ok (.bool true) W := fun W => by kernel_rfl
    clear hr hn HR HN
    go_enter Tryd.func48, Tryd.ntmps48
    go_wp2_with fail
    go_ret
    exact ⟨_, rfl, Below.refl _ _, Gb.nil _ _⟩
  | some a =>
    clear hr hn
    have g0 : Below w.heap.size w (w.alloc (.cells #[] 5)) := by go_grown
    have hG := Gb.lit w.heap.size w (Nat.le_refl _)
    have hEq : ∀ W : World, (binOp .eql 22 (.slice (some a) n c) (.slice none 0 0)).run Tryd.prog W = .ok (.bool false) W := fun W => by kernel_rfl
    go_enter Tryd.func48, Tryd.ntmps48
    go_wp2_with (at_builtin; refine wpList_append_bytes _ rfl _ _ rfl w.heap.size _ [] zs (some a) n c rfl rfl HN.out hG (HR.out.below g0 (Nat.le_refl _)) ?n1 ?n2 ?_)
    case n1 => rw [HN.out]; simp; omega
    case n2 => simp
    intro v' w6 hown' hgrow hat
    have g6 : Below w.heap.size w w6 := Below.grown g0 hgrow (by simp) (fun q e => by simp [Value.ownBlock] at e; omega)
    clear hgrow hG g0 hat
    go_wp2_with fail
    go_ret
    exact ⟨v', rfl, g6, hown'⟩

/-- Block b holds two slices. -/
structure TwoAt (V : World) (b : Nat) (x : Option Addr) (n c : Nat) (y : Option Addr) (m d : Nat) : Prop where
  c0 : V.cell? ⟨b, 0, none⟩ = some (.slice x n c)
  c1 : V.cell? ⟨b, 1, none⟩ = some (.slice y m d)

end Go.Proofs.YtcjkjenebnodbaaDoor
