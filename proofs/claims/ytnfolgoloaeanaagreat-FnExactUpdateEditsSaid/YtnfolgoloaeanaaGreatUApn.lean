/-
  Structs appended to a slice of one's own, from whatever slice.
-/
import Derived.Test.YtnfolgoloaeanaaGreatUVci
import Derived.Lib.AppendZeros
import Derived.Maps.AppendAt
import Derived.Lib.Bytes
import Derived.Test.YtnfolgoloaeanaaGreatUBy

namespace Go.Proofs.YtnfolgoloaeanaaGreat
open Go.RowKit
set_option linter.unusedVariables false

section
variable {α : Type} {enc : α → List Value} {k : Nat}

/-- What is known of slices of type T, of elements of type E that are told by enc. -/
structure ElT (T E : Nat) (enc : α → List Value) (k bytes : Nat) : Prop where
  und : Tryz.prog.underlying T = some (.slice E)
  inf : ∃ i z, Tryz.prog.info? E = some i ∧ i.zero = some z ∧ i.size = k ∧ i.bytes = bytes ∧ z.cells.size = k
  len : ∀ x, (enc x).length = k
  one : ∀ x, ∀ u ∈ enc x, u.oneCell' = true
  pos : 0 < k
  few : bytes ≤ 1000

theorem run_append_none_any {P : Program} (w : World) (base : Nat) (t ty e : TypeId) (i : TypeInfo) (size c : Nat) (ht : P.underlying t = some (.slice e)) (hi : P.info? e = some i)
    (v : Value) (n : Nat) (xs : List Value) (hown : w.ownsRow base e size v n xs) : (Builtin.append_ #[t, t] ty #[v, .slice none 0 c]).run P w = .ok v w := by
  rcases hown.2 with ⟨rfl, rfl⟩ | ⟨g, cap, cur, rfl, _, _, hnc, _⟩
  · simp [Builtin.append_, run_underlying ht, sizeOf, typeInfo, hi, Builtin.lenOf, Builtin.firstCells]
  · simp [Builtin.append_, run_underlying ht, sizeOf, typeInfo, hi, Builtin.lenOf, Builtin.firstCells, hnc, storeCells]

theorem flat_one' (h : ∀ x, ∀ u ∈ enc x, u.oneCell' = true) (xs : List α) : ∀ u ∈ flat enc xs, u.oneCell' = true := by
  intro u hu
  obtain ⟨x, _, hx⟩ := List.mem_flatMap.1 hu
  exact h x u hx

theorem Rs.flatAt {w : World} {b off : Nat} {xs : List α} (hk : ∀ x, (enc x).length = k) (hp : 0 < k) (h : ∀ i x, xs[i]? = some x → ∀ j u, (enc x)[j]? = some u → w.cell? ⟨b, off + i * k + j, none⟩ = some u) : ∀ j u, (flat enc xs)[j]? = some u → w.cell? ((⟨b, off, none⟩ : Addr).add j) = some u := by
  intro j u hu
  have ea : (⟨b, off, none⟩ : Addr).add j = ⟨b, off + j, none⟩ := by unfold Addr.add; split <;> simp_all
  rw [ea]
  have hlt : j < xs.length * k := by rw [← flat_length hk xs]; exact (List.getElem?_eq_some_iff.1 hu).1
  have hi : j / k < xs.length := Nat.div_lt_of_lt_mul (by rw [Nat.mul_comm]; exact hlt)
  have hx : xs[j / k]? = some xs[j / k] := List.getElem?_eq_getElem hi
  have hm := Nat.mod_lt j hp
  have hj : j / k * k + j % k = j := by rw [Nat.mul_comm]; exact Nat.div_add_mod j k
  have e := flat_at hk xs (j / k) (j % k) _ hx hm
  rw [hj, hu] at e
  have := h _ _ hx (j % k) u e.symm
  rw [Nat.add_assoc, hj] at this
  exact this

theorem run_append_sl {T E bytes : Nat} (L : ElT T E enc k bytes) (w : World) (base : Nat) (ty : TypeId) (v : Value) (xs ys : List α) (x : Option Addr) (c : Nat) (hown : w.ownsRow base E k v xs.length (flat enc xs)) (hr : Rs enc k w x ys) (hl : xs.length + ys.length ≤ 100000000) (hb : base ≤ w.heap.size) :
    ∃ v' w', (Builtin.append_ #[T, T] ty #[v, .slice x ys.length c]).run Tryz.prog w = .ok v' w' ∧ w'.ownsRow base E k v' (xs ++ ys).length (flat enc (xs ++ ys)) ∧ w.grownBy w' v.ownBlock ∧ (v'.ownBlock = v.ownBlock ∨ v'.ownBlock = some w.heap.size) := by
  obtain ⟨i0, z, hi0, hz0, hz1, hz2, hz3⟩ := L.inf
  have hf := L.few
  have fin : ∀ (a : Addr), x = some a → (∀ j u, (flat enc ys)[j]? = some u → w.cell? (a.add j) = some u) → ∃ v' w', (Builtin.append_ #[T, T] ty #[v, .slice x ys.length c]).run Tryz.prog w = .ok v' w' ∧ w'.ownsRow base E k v' (xs ++ ys).length (flat enc (xs ++ ys)) ∧ w.grownBy w' v.ownBlock ∧ (v'.ownBlock = v.ownBlock ∨ v'.ownBlock = some w.heap.size) := fun a ha hc => by
    subst ha
    obtain ⟨v', w', h1, h2, h3, _, h5⟩ := run_append_own_at (P := Tryz.prog) w base T ty E i0 z k bytes L.und hi0 hz0 hz1 hz2 hz3 L.pos v xs.length (flat enc xs) hown a ys.length c (flat enc ys) (flat_length L.len ys) hc (flat_one' L.one ys) (by unfold maxLen; omega) (by
      have : (xs.length + ys.length) * bytes ≤ 100000000 * 1000 := Nat.mul_le_mul hl hf
      omega) hb
    exact ⟨v', w', h1, by rw [List.length_append, flat_append]; exact h2, h3, h5⟩
  rcases hr with h | ⟨b, off, ha, hc⟩
  · subst h
    cases x with
    | some a => exact fin a rfl (fun j u h => by simp [flat] at h)
    | none => exact ⟨v, w, run_append_none_any w base T ty E i0 k c L.und hi0 v xs.length _ hown, by rw [List.append_nil]; exact hown, ⟨rfl, rfl, rfl, Nat.le_refl _, fun _ _ _ => rfl⟩, .inl rfl⟩
  · exact fin ⟨b, off, none⟩ ha (Rs.flatAt L.len L.pos hc)

theorem wp_append_sl {T E bytes : Nat} (L : ElT T E enc k bytes) (w : World) {o : Oper} {a : Act} {K : Act → World → Prop} {Q : Exit → Act → World → Prop} (s x : Operand)
    (ho : o.op = .call { callee := .builtin .append, args := #[s, x], argTypes := #[T, T] }) (base : Nat) (v : Value) (xs ys : List α) (ax : Option Addr) (n c : Nat) (hs : a.eval s = v) (hx : a.eval x = .slice ax n c) (hn : ys.length = n)
    (hown : w.ownsRow base E k v xs.length (flat enc xs)) (hr : Rs enc k w ax ys) (hl : xs.length + ys.length ≤ 100000000) (hb : base ≤ w.heap.size)
    (h : ∀ v' w', w'.ownsRow base E k v' (xs ++ ys).length (flat enc (xs ++ ys)) → w.grownBy w' v.ownBlock → (v'.ownBlock = v.ownBlock ∨ v'.ownBlock = some w.heap.size) → K (a.put o.dst v') w') : o.wp Tryz.prog a w K Q := by
  subst hn
  obtain ⟨v', w', h1, h2, h3, h4⟩ := run_append_sl L w base o.type v xs ys ax c hown hr hl hb
  exact Go.Lib.wp_append_run w s x T T ho v _ hs hx v' w' h1 (h v' w' h2 h3 h4)

theorem wpList_append_sl {T E bytes : Nat} (L : ElT T E enc k bytes) (w : World) {ops : Array Oper} {rest : List Oper} {o : Oper} {a : Act} {Q : Exit → Act → World → Prop} (hgd : o.guard = none) (s x : Operand)
    (ho : o.op = .call { callee := .builtin .append, args := #[s, x], argTypes := #[T, T] }) (base : Nat) (v : Value) (xs ys : List α) (ax : Option Addr) (n c : Nat) (hs : a.eval s = v) (hx : a.eval x = .slice ax n c) (hn : ys.length = n)
    (hown : w.ownsRow base E k v xs.length (flat enc xs)) (hr : Rs enc k w ax ys) (hl : xs.length + ys.length ≤ 100000000) (hb : base ≤ w.heap.size)
    (h : ∀ v' w', w'.ownsRow base E k v' (xs ++ ys).length (flat enc (xs ++ ys)) → w.grownBy w' v.ownBlock → (v'.ownBlock = v.ownBlock ∨ v'.ownBlock = some w.heap.size) → wpList Tryz.prog ops Q rest (a.put o.dst v') w') : wpList Tryz.prog ops Q (o :: rest) a w :=
  wpList_plain hgd fun _ hK => wp_append_sl L w s x ho base v xs ys ax n c hs hx hn hown hr hl hb (fun v' w' h1 h2 h3 => hK _ _ (h v' w' h1 h2 h3))

end

theorem elP : ElT 161 186 spE 10 88 where
  und := Tryz.underlying161
  inf := by obtain ⟨i, h1, h2, h3, h4⟩ := infoP; exact ⟨i, _, h1, h2, h3, h4, rfl⟩
  len := spE_len
  one := by intro x u hu; simp [spE] at hu; rcases hu with rfl | rfl | rfl | rfl | rfl | rfl | rfl | rfl | rfl | rfl <;> rfl
  pos := by decide
  few := by decide


/-- The value v owns a row of bytes, in blocks from base on, laid as bytes. -/
def G5 (base : Nat) (w : World) (v : Value) (xs : List Int) : Prop := w.ownsRow base 5 1 v xs.length (xs.map (Value.int .u8))
/-- What a block of bytes may be laid as: bytes, or an array of them. -/
def Gt (t : TypeId) : Prop := t = 5 ∨ t = 207
/-- The value v owns a row of bytes, in blocks from base on. -/
def Gb (base : Nat) (w : World) (v : Value) (xs : List Int) : Prop := ∃ t, Gt t ∧ w.ownsRow base t 1 v xs.length (xs.map (Value.int .u8))

theorem G5.gb {base : Nat} {w : World} {v : Value} {xs : List Int} (h : G5 base w v xs) : Gb base w v xs := ⟨5, .inl rfl, h⟩
theorem Gb.kept {base : Nat} {w w' : World} {v : Value} {xs : List Int} (h : Gb base w v xs) {row : Option Nat} (hg : w.grownBy w' row) (hn : v.ownBlock = none ∨ v.ownBlock ≠ row) : Gb base w' v xs := by
  obtain ⟨t, ht, h⟩ := h
  exact ⟨t, ht, World.ownsRow.kept h hg hn⟩
theorem Gb.grown {base : Nat} {w w' : World} {v : Value} {xs : List Int} (h : Gb base w v xs) (hb : Below w.heap.size w w') : Gb base w' v xs :=
  h.kept (row := none) ⟨hb.os, hb.tape, hb.output, hb.size, fun k hk _ => hb.block k hk⟩ (by cases hv : v.ownBlock <;> simp)
theorem Gb.lt {base : Nat} {w : World} {v : Value} {xs : List Int} (h : Gb base w v xs) (g : Nat) (e : v.ownBlock = some g) : base ≤ g ∧ g < w.heap.size := by
  obtain ⟨t, ht, h⟩ := h
  exact World.ownsRow.lt h g e
theorem Gb.other {base : Nat} {w : World} {v : Value} {xs : List Int} (h : Gb base w v xs) {a : Addr} (hn : v.ownBlock ≠ some a.block) (u : Value) : Gb base (w.setCell a u) v xs := by
  obtain ⟨t, ht, h⟩ := h
  exact ⟨t, ht, ownsRow_setCell_other h hn u⟩
theorem Gb.base {base m : Nat} {w : World} {v : Value} {xs : List Int} (h : Gb base w v xs) (hm : m ≤ base) : Gb m w v xs := by
  obtain ⟨t, ht, h⟩ := h
  exact ⟨t, ht, ownsRow_base h hm⟩
theorem Gb.below {base : Nat} {w w' : World} {v : Value} {xs : List Int} (h : Gb base w v xs) (hb : Below w.heap.size w w') : Gb base w' v xs := h.grown hb

theorem news_at {w : World} {b o : Nat} {xs : List Int} (h : ∀ i, i < xs.length → w.cell? ⟨b, o + i, none⟩ = some (.int .u8 (xs.getD i 0))) : ∀ j u, (xs.map (Value.int .u8))[j]? = some u → w.cell? ((⟨b, o, none⟩ : Addr).add j) = some u := by
  intro j u hu
  have hj : j < xs.length := by
    have := (List.getElem?_eq_some_iff.1 hu).1
    simpa using this
  have ea : (⟨b, o, none⟩ : Addr).add j = ⟨b, o + j, none⟩ := by unfold Addr.add; split <;> simp_all
  rw [ea, h j hj]
  simp [List.getElem?_eq_getElem hj] at hu
  rw [← hu]
  simp [List.getD, hj]

theorem ones (xs : List Int) : ∀ u ∈ xs.map (Value.int .u8), u.oneCell' = true := by
  intro u hu
  rw [List.mem_map] at hu
  obtain ⟨z, _, rfl⟩ := hu
  rfl

theorem run_append_bytes (w : World) (base : Nat) (ty : TypeId) (v : Value) (us zs : List Int) (x : Option Addr) (c : Nat) (hown : G5 base w v us) (hr : Reads w x zs) (hl : us.length + zs.length ≤ 100000000) (hb : base ≤ w.heap.size) :
    ∃ v' w', (Builtin.append_ #[22, 22] ty #[v, .slice x zs.length c]).run Tryz.prog w = .ok v' w' ∧ G5 base w' v' (us ++ zs) ∧ w.grownBy w' v.ownBlock ∧ (v'.ownBlock = v.ownBlock ∨ v'.ownBlock = some w.heap.size) := by
  obtain ⟨i0, hi0, hz0, hz1, hz2⟩ := info5
  have fin : ∀ (a : Addr), x = some a → (∀ j u, (zs.map (Value.int .u8))[j]? = some u → w.cell? (a.add j) = some u) → ∃ v' w', (Builtin.append_ #[22, 22] ty #[v, .slice x zs.length c]).run Tryz.prog w = .ok v' w' ∧ G5 base w' v' (us ++ zs) ∧ w.grownBy w' v.ownBlock ∧ (v'.ownBlock = v.ownBlock ∨ v'.ownBlock = some w.heap.size) := fun a ha hc => by
    subst ha
    obtain ⟨v', w', h1, h2, h3, _, h5⟩ := run_append_own_at (P := Tryz.prog) w base 22 ty 5 i0 (.int .u8 0) 1 1 Tryz.underlying22 hi0 hz0 hz1 hz2 rfl (by decide) v us.length (us.map (Value.int .u8)) hown a zs.length c (zs.map (Value.int .u8)) (by simp) hc (ones _) (by unfold maxLen; omega) (by omega) hb
    exact ⟨v', w', h1, by unfold G5; rw [List.length_append, List.map_append]; exact h2, h3, h5⟩
  rcases hr with h | ⟨b, off, ha, hc⟩
  · subst h
    cases x with
    | some a => exact fin a rfl (fun j u h => by simp at h)
    | none => exact ⟨v, w, run_append_none_any w base 22 ty 5 i0 1 c Tryz.underlying22 hi0 v us.length _ hown, by rw [List.append_nil]; exact hown, ⟨rfl, rfl, rfl, Nat.le_refl _, fun _ _ _ => rfl⟩, .inl rfl⟩
  · exact fin ⟨b, off, none⟩ ha (news_at hc)

theorem wp_append_bytes (w : World) {o : Oper} {a : Act} {K : Act → World → Prop} {Q : Exit → Act → World → Prop} (s x : Operand)
    (ho : o.op = .call { callee := .builtin .append, args := #[s, x], argTypes := #[22, 22] }) (base : Nat) (v : Value) (us zs : List Int) (ax : Option Addr) (n c : Nat) (hs : a.eval s = v) (hx : a.eval x = .slice ax n c) (hn : zs.length = n)
    (hown : G5 base w v us) (hr : Reads w ax zs) (hl : us.length + zs.length ≤ 100000000) (hb : base ≤ w.heap.size)
    (h : ∀ v' w', G5 base w' v' (us ++ zs) → w.grownBy w' v.ownBlock → (v'.ownBlock = v.ownBlock ∨ v'.ownBlock = some w.heap.size) → K (a.put o.dst v') w') : o.wp Tryz.prog a w K Q := by
  subst hn
  obtain ⟨v', w', h1, h2, h3, h4⟩ := run_append_bytes w base o.type v us zs ax c hown hr hl hb
  exact Go.Lib.wp_append_run w s x 22 22 ho v _ hs hx v' w' h1 (h v' w' h2 h3 h4)

theorem wpList_append_bytes (w : World) {ops : Array Oper} {rest : List Oper} {o : Oper} {a : Act} {Q : Exit → Act → World → Prop} (hgd : o.guard = none) (s x : Operand)
    (ho : o.op = .call { callee := .builtin .append, args := #[s, x], argTypes := #[22, 22] }) (base : Nat) (v : Value) (us zs : List Int) (ax : Option Addr) (n c : Nat) (hs : a.eval s = v) (hx : a.eval x = .slice ax n c) (hn : zs.length = n)
    (hown : G5 base w v us) (hr : Reads w ax zs) (hl : us.length + zs.length ≤ 100000000) (hb : base ≤ w.heap.size)
    (h : ∀ v' w', G5 base w' v' (us ++ zs) → w.grownBy w' v.ownBlock → (v'.ownBlock = v.ownBlock ∨ v'.ownBlock = some w.heap.size) → wpList Tryz.prog ops Q rest (a.put o.dst v') w') : wpList Tryz.prog ops Q (o :: rest) a w :=
  wpList_plain hgd fun _ hK => wp_append_bytes w s x ho base v us zs ax n c hs hx hn hown hr hl hb (fun v' w' h1 h2 h3 => hK _ _ (h v' w' h1 h2 h3))

theorem Gb.shape {base : Nat} {w : World} {v : Value} {xs : List Int} (h : Gb base w v xs) : ∃ a c, v = .slice a xs.length c ∧ xs.length ≤ c ∧ c ≤ 9223372036854775807 ∧ BytesIn base w.heap.size w a xs ∧ (a = none → c = 0) := by
  have hml : maxLen = 9223372036854775807 := by decide
  obtain ⟨t, ht, h'⟩ := h
  rcases h'.2 with ⟨e, h0⟩ | ⟨g, cap, cur, e, h1, h2, h3, h4, _⟩
  · exact ⟨none, 0, by rw [e, h0], by omega, by omega, .inl (List.eq_nil_of_length_eq_zero h0), fun _ => rfl⟩
  · refine ⟨_, cap, e, h3, by omega, ?_, fun h => by cases h⟩
    rw [e] at h'
    exact bytesIn_owns h'

theorem Gb.nil (base : Nat) (w : World) : Gb base w (.slice none 0 0) [] := ⟨5, .inl rfl, World.ownsRow_nil _ _ _ _⟩
theorem G5.lit (base : Nat) (w : World) (h : base ≤ w.heap.size) : G5 base (w.alloc (.cells #[] 5)) (.slice (some ⟨w.heap.size, 0, none⟩) 0 0) [] := World.ownsRow_lit (base := base) (e := 5) (size := 1) w #[] 0 h (by unfold maxLen; omega) rfl

set_option maxHeartbeats 400000 in
theorem l2Copy_gen (x : Option Addr) (zs : List Int) (n c : Nat) (w : World) (hn : zs.length = n) (hm : n ≤ 10000000) (hr : Reads w x zs) :
    Calls Tryz.prog 89 #[.slice x n c] w fun e w' => ∃ v, e = .returned v ∧ Below w.heap.size w w' ∧ Gb w.heap.size w' v zs := by
  have HR : Hid (Reads w x zs) := hr
  have HN : Hid (zs.length = n) := hn
  clear hr hn
  have g0 : Below w.heap.size w (w.alloc (.cells #[] 5)) := by go_grown
  have hG := G5.lit w.heap.size w (Nat.le_refl _)
  go_enter Tryz.func89, Tryz.ntmps89
  go_wp2_with (at_builtin; refine wpList_append_bytes _ rfl _ _ rfl w.heap.size _ [] zs x n c rfl rfl HN.out hG (HR.out.below g0 (Nat.le_refl _)) ?n1 ?n2 ?_)
  case n1 => rw [HN.out]; simp; omega
  case n2 => simp
  intro v' w6 hown' hgrow hat
  have g6 : Below w.heap.size w w6 := Below.grown g0 hgrow (by simp) (fun q e => by simp [Value.ownBlock] at e; omega)
  clear hgrow hG g0 hat
  go_wp2_with fail
  go_ret
  exact ⟨v', rfl, g6, G5.gb hown'⟩

set_option maxHeartbeats 400000 in
theorem clone_gen (x : Option Addr) (zs : List Int) (n c : Nat) (w : World) (hn : zs.length = n) (hm : n ≤ 10000000) (hr : Reads w x zs) (hxc : x = none → c = 0) :
    Calls Tryz.prog 87 #[.slice x n c] w fun e w' => ∃ v, e = .returned v ∧ Below w.heap.size w w' ∧ Gb w.heap.size w' v zs := by
  have HR : Hid (Reads w x zs) := hr
  have HN : Hid (zs.length = n) := hn
  cases x with
  | none =>
    have hz : zs = [] := by
      rcases hr with h | ⟨_, _, h, _⟩
      · exact h
      · cases h
    subst hz
    have hn0 : n = 0 := by simpa using hn.symm
    have hc0 := hxc rfl
    subst hn0 hc0
    have hEq : ∀ W : World, (binOp .eql 22 (.slice none 0 0) (.slice none 0 0)).run Tryz.prog W = .ok (.bool true) W := fun W => by kernel_rfl
    clear hr hn HR HN
    go_enter Tryz.func87, Tryz.ntmps87
    go_wp2_with fail
    go_ret
    exact ⟨_, rfl, Below.refl _ _, Gb.nil _ _⟩
  | some a =>
    clear hr hn
    have g0 : Below w.heap.size w (w.alloc (.cells #[] 5)) := by go_grown
    have hG := G5.lit w.heap.size w (Nat.le_refl _)
    have hEq : ∀ W : World, (binOp .eql 22 (.slice (some a) n c) (.slice none 0 0)).run Tryz.prog W = .ok (.bool false) W := fun W => by kernel_rfl
    go_enter Tryz.func87, Tryz.ntmps87
    go_wp2_with (at_builtin; refine wpList_append_bytes _ rfl _ _ rfl w.heap.size _ [] zs (some a) n c rfl rfl HN.out hG (HR.out.below g0 (Nat.le_refl _)) ?n1 ?n2 ?_)
    case n1 => rw [HN.out]; simp; omega
    case n2 => simp
    intro v' w6 hown' hgrow hat
    have g6 : Below w.heap.size w w6 := Below.grown g0 hgrow (by simp) (fun q e => by simp [Value.ownBlock] at e; omega)
    clear hgrow hG g0 hat
    go_wp2_with fail
    go_ret
    exact ⟨v', rfl, g6, G5.gb hown'⟩

theorem strOf_inj : ∀ (xs ys : List Int), (∀ z ∈ xs, 0 ≤ z ∧ z ≤ 255) → (∀ z ∈ ys, 0 ≤ z ∧ z ≤ 255) → (xs.map fun n => UInt8.ofNat n.toNat) = (ys.map fun n => UInt8.ofNat n.toNat) → xs = ys
  | [], [], _, _, _ => rfl
  | [], _ :: _, _, _, h => by simp at h
  | _ :: _, [], _, _, h => by simp at h
  | x :: xs, y :: ys, hx, hy, h => by
    simp only [List.map_cons, List.cons.injEq] at h
    have h1 := hx x (by simp)
    have h2 := hy y (by simp)
    have e : x = y := by
      have := congrArg UInt8.toNat h.1
      simp only [UInt8.toNat_ofNat'] at this
      omega
    rw [e, strOf_inj xs ys (fun z hz => hx z (by simp [hz])) (fun z hz => hy z (by simp [hz])) h.2]

theorem convert_none (w : World) (a : Option Addr) (c : Nat) : (convert 22 9 (.slice a 0 c)).run Tryz.prog w = .ok (.string (strOfNums [])) w := by
  rw [run_convert_bytes_string w 22 9 5 a 0 c Tryz.underlying22 Tryz.underlying5 Tryz.underlying9]
  cases a with
  | none => simp [Conv.bytesToString]; rfl
  | some p =>
    have hl : (loadCells p 0).run Tryz.prog w = .ok (([] : List Int).map (Value.int .u8)).toArray w := run_loadCells_list (P := Tryz.prog) w p [] (fun j v hj => by simp at hj)
    rw [run_bytesToString w p 0 c [] hl]
    rfl

theorem convert_any (w : World) (a : Option Addr) (n c : Nat) (zs : List Int) (hn : zs.length = n) (h : Reads w a zs) : (convert 22 9 (.slice a n c)).run Tryz.prog w = .ok (.string (strOfNums zs)) w := by
  by_cases h0 : zs = []
  · subst h0
    simp at hn
    subst hn
    exact convert_none w a c
  · rcases h with h | ⟨b, off, rfl, hc⟩
    · exact absurd h h0
    · exact run_convert_bytes_arg w 22 5 Tryz.underlying22 Tryz.underlying5 b off n c zs hn (fun i hi => hc i (by omega)) 9 Tryz.underlying9

set_option maxHeartbeats 400000 in
theorem bytesEqual_any (a b : Option Addr) (n m c d : Nat) (xs ys : List Int) (w : World) (hn : xs.length = n) (hm : ys.length = m) (ha : Reads w a xs) (hb : Reads w b ys) (hx : ∀ z ∈ xs, 0 ≤ z ∧ z ≤ 255) (hy : ∀ z ∈ ys, 0 ≤ z ∧ z ≤ 255) :
    Calls Tryz.prog 140 #[.slice a n c, .slice b m d] w fun e w' => e = .returned (.bool (decide (xs = ys))) ∧ w' = w := by
  have k1 := convert_any w a n c xs hn ha
  have k2 := convert_any w b m d ys hm hb
  have HE : Hid (decide (xs = ys) = ((strOfNums xs).toList == (strOfNums ys).toList)) := by
    show _ = _
    rw [Bool.eq_iff_iff, Go.Lib.strOfNums_toList, Go.Lib.strOfNums_toList, decide_eq_true_eq, beq_iff_eq]
    exact ⟨fun e => by rw [e], fun e => strOf_inj xs ys hx hy e⟩
  generalize strOfNums xs = s at k1 HE
  generalize strOfNums ys = t at k2 HE
  clear ha hb hn hm hx hy
  go_enter Tryz.func140, Tryz.ntmps140
  go_wp2
  go_ret
  exact ⟨by rw [HE.out]; rfl, rfl⟩


/-- The slice that begins at a reads as n runs: of the i-th the place P i and the bytes Z i, which stand at A i, with the capacity C i. -/
def RunsRead (w : World) (a : Option Addr) (n : Nat) (P : Nat → Int) (A : Nat → Option Addr) (C : Nat → Nat) (Z : Nat → List Int) : Prop :=
  n = 0 ∨ ∃ b off, a = some ⟨b, off, none⟩ ∧ (∀ i, i < n → w.cell? ⟨b, off + i * 2, none⟩ = some (.int .i64 (P i)) ∧ w.cell? ⟨b, off + i * 2 + 1, none⟩ = some (.slice (A i) (Z i).length (C i)) ∧ Reads w (A i) (Z i))

theorem RunsRead.below {w w' : World} {a : Option Addr} {n : Nat} {P : Nat → Int} {A : Nat → Option Addr} {C : Nat → Nat} {Z : Nat → List Int} (h : RunsRead w a n P A C Z) {B : Nat} (hb : Below B w w') (hB : w.heap.size ≤ B) : RunsRead w' a n P A C Z := by
  rcases h with h | ⟨b, off, ha, hc⟩
  · exact .inl h
  · refine .inr ⟨b, off, ha, fun i hi => ?_⟩
    obtain ⟨h0, h1, h2⟩ := hc i hi
    exact ⟨(hb.cell (p := ⟨b, _, none⟩) (Nat.lt_of_lt_of_le (World.block_lt_of_cell? w _ h0) hB)).trans h0, (hb.cell (p := ⟨b, _, none⟩) (Nat.lt_of_lt_of_le (World.block_lt_of_cell? w _ h1) hB)).trans h1, h2.below hb hB⟩

/-- How much the first k runs take. -/
def took (Z : Nat → List Int) : Nat → Nat
  | 0 => 0
  | k + 1 => took Z k + (Z k).length

theorem took_mono (Z : Nat → List Int) (k n : Nat) (h : k ≤ n) : took Z k ≤ took Z n := by
  induction n with
  | zero => have : k = 0 := by omega
            subst this; exact Nat.le_refl _
  | succ n ih =>
    by_cases e : k = n + 1
    · subst e; exact Nat.le_refl _
    · have := ih (by omega); simp only [took]; omega
theorem took_one (Z : Nat → List Int) (k n : Nat) (h : k < n) : (Z k).length ≤ took Z n := by
  have := took_mono Z (k + 1) n h
  simp only [took] at this
  omega

/-- What is left of k behind n. -/
def szQ (k : Int) (n : Nat) : Int := if k < n then -1 else k - n

set_option maxHeartbeats 400000 in
theorem szByteS_any (a : Option Addr) (n c : Nat) (k : Int) (w : World) (hm : n ≤ 9223372036854775807) (hk0 : 0 ≤ k) (hk1 : k ≤ 1048576) :
    Calls Tryz.prog 90 #[.slice a n c, .int .i64 k] w fun e w' => e = .returned (.int .i64 (szQ k n)) ∧ w' = w := by
  by_cases h : k < n
  · have d : (k - (n : Int) < 0) := by omega
    have HQ : Hid (szQ k n = -1) := by show _ = _; unfold szQ; rw [if_pos h]
    go_enter Tryz.func90, Tryz.ntmps90
    go_wp2_with fail
    go_ret
    exact ⟨by rw [HQ.out]; rfl, rfl⟩
  · have d : ¬ (k - (n : Int) < 0) := by omega
    have HQ : Hid (szQ k n = k - n) := by show _ = _; unfold szQ; rw [if_neg h]
    go_enter Tryz.func90, Tryz.ntmps90
    go_wp2_with fail
    go_ret
    exact ⟨by rw [HQ.out]; rfl, rfl⟩

end Go.Proofs.YtnfolgoloaeanaaGreat

