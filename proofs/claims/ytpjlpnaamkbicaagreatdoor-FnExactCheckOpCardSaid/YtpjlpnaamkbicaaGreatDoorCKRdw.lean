/-
  What came in, opened: a slice of rows.
-/
import Derived.Test.YtpjlpnaamkbicaaGreatDoorCKRwg
import Derived.Deep.SlicePairs
import Derived.OpenShut
import Derived.ProofKit
import Derived.Maps.AppendAt
import Derived.Lib.AppendZeros
import Derived.BigQuiet

namespace Go.Proofs.YtpjlpnaamkbicaaGreatDoor
open Go.ChangeShapes Go.WideShapes Go.RowKit
set_option linter.unusedVariables false

structure IsRows (w : World) (a : Option Addr) (len : Nat) (rs : List Rw) : Prop where
  rd : Rs rwE 4 w a rs
  eq : rs.length = len
  ln : len ≤ 9223372036854775807
  sz : ∀ r ∈ rs, r.s.size ≤ maxLen
  wf : ∀ r ∈ rs, (Lit.int .i64 r.t).wf = true ∧ (Lit.int .i64 r.k).wf = true ∧ (Lit.int .i64 r.v).wf = true

instance : Inhabited Rw := ⟨⟨0, 0, 0, ⟨#[]⟩⟩⟩
theorem four {α : Type} (xs : List α) (h : xs.length = 4) : ∃ a b c d, xs = [a, b, c, d] := by
  match xs, h with
  | [a, b, c, d], _ => exact ⟨a, b, c, d, rfl⟩

theorem list_of_fun {α : Type} (q : Nat → α) (n : Nat) {i : Nat} {r : α} (h : ((List.range n).map q)[i]? = some r) : i < n ∧ r = q i := by
  rw [List.getElem?_map] at h
  cases e : (List.range n)[i]? with
  | none => rw [e] at h; simp at h
  | some m =>
    rw [e] at h
    simp at h
    obtain ⟨hl, hm⟩ := List.getElem?_eq_some_iff.1 e
    simp at hl hm
    exact ⟨hl, by rw [← h, ← hm]⟩

theorem open_rows {H : Type} {enc : TypeId × Value → H} {W : World} {base : Nat} {held : Bool} {fuel : Nat} {a : Option Addr} {len cap : Nat} {x : DataW H × List MemPlace}
    (h : DataW.trod enc Tryz.prog W base (fun _ => true) held fuel 22 [.slice a len cap] = some x) : ∃ rs, IsRows W a len rs := by
  have hml : maxLen = 9223372036854775807 := by decide
  rcases Go.Deep.open_slice Tryz.underlying22 h with ⟨hcs, _⟩ | ⟨y, l, c, m, n, Dd, Pl, hcs, hb, hl, hm, hmm, _, hx⟩
  · simp only [List.cons.injEq, Value.slice.injEq, and_true] at hcs
    obtain ⟨rfl, rfl, rfl⟩ := hcs
    exact ⟨[], .inl rfl, rfl, by omega, fun r hr => by simp at hr, fun r hr => by simp at hr⟩
  · simp only [List.cons.injEq, Value.slice.injEq, and_true] at hcs
    obtain ⟨rfl, rfl, rfl⟩ := hcs
    simp only [if_true] at hmm
    subst hmm
    have ce : Tryz.prog.cellsOf 25 = 4 := by kernel_rfl
    have each : ∀ i, i < len → ∃ q : Rw, W.cell? (y.add (i * 4)) = some (.int .i64 q.t) ∧ W.cell? (y.add (i * 4 + 1)) = some (.int .i64 q.k) ∧ W.cell? (y.add (i * 4 + 2)) = some (.int .i64 q.v) ∧ W.cell? (y.add (i * 4 + 3)) = some (.string q.s) ∧ q.s.size ≤ maxLen ∧ (Lit.int .i64 q.t).wf = true ∧ (Lit.int .i64 q.k).wf = true ∧ (Lit.int .i64 q.v).wf = true := by
      intro i hi
      obtain ⟨cs', h1, h2⟩ := hx i (by omega)
      rw [ce] at h1
      obtain ⟨_, hlen, hcell⟩ := World.cells?_some h1
      obtain ⟨xs, k, hk, hxy, _, hxl, hf⟩ := DataW.trod_struct Tryz.underlying25 h2
      have hx4 : xs.length = 4 := hxl
      clear hxl
      obtain ⟨y0, y1, y2, y3, rfl⟩ := four xs hx4
      obtain ⟨v0, v1, v2, v3, rfl⟩ := four cs' hlen
      have g0 := hf 0 _ rfl
      have g1 := hf 1 _ rfl
      have g2 := hf 2 _ rfl
      have g3 := hf 3 _ rfl
      have c2 : Tryz.prog.cellsOf 2 = 1 := by kernel_rfl
      have c9 : Tryz.prog.cellsOf 9 = 1 := by kernel_rfl
      simp [c2, c9] at g0 g1 g2 g3
      obtain ⟨t0, e0, _, w0⟩ := DataW.trod_int Tryz.underlying2 g0
      obtain ⟨t1, e1, _, w1⟩ := DataW.trod_int Tryz.underlying2 g1
      obtain ⟨t2, e2, _, w2⟩ := DataW.trod_int Tryz.underlying2 g2
      obtain ⟨s, e3, _, hs⟩ := DataW.trod_string Tryz.underlying9 g3
      simp only [List.cons.injEq, and_true] at e0 e1 e2 e3
      subst e0 e1 e2 e3
      have k0 := hcell 0 (by omega)
      have k1 := hcell 1 (by omega)
      have k2 := hcell 2 (by omega)
      have k3 := hcell 3 (by omega)
      rw [Go.Deep.add_add] at k0 k1 k2 k3
      exact ⟨⟨t0, t1, t2, s⟩, by simpa using k0, by simpa using k1, by simpa using k2, by simpa using k3, hs, w0, w1, w2⟩
    obtain ⟨q, hq⟩ := Go.Deep.choose_lt each
    refine ⟨(List.range len).map q, ?_, by simp, by omega, ?_, ?_⟩
    · by_cases h0 : len = 0
      · subst h0; exact .inl rfl
      · obtain ⟨b, off, spot⟩ := y
        have hc0 := (hq 0 (by omega)).1
        have hspot : spot = none := by simpa [Addr.add] using World.cell?_spot hc0
        subst hspot
        have ea : ∀ i, (⟨b, off, none⟩ : Addr).add i = ⟨b, off + i, none⟩ := by intro i; unfold Addr.add; split <;> simp_all
        refine .inr ⟨b, off, rfl, fun i r hr => ?_⟩
        obtain ⟨hi, rfl⟩ := list_of_fun q len hr
        obtain ⟨q0, q1, q2, q3, _⟩ := hq i hi
        rw [ea] at q0 q1 q2 q3
        refine RowC.cells (o := off + i * 4) ⟨q0, ?_, ?_, ?_⟩
        · rw [Nat.add_assoc]; exact q1
        · rw [Nat.add_assoc]; exact q2
        · rw [Nat.add_assoc]; exact q3
    · intro r hr
      obtain ⟨i, hi, rfl⟩ := List.mem_map.1 hr
      exact (hq i (by simpa using hi)).2.2.2.2.1
    · intro r hr
      obtain ⟨i, hi, rfl⟩ := List.mem_map.1 hr
      exact (hq i (by simpa using hi)).2.2.2.2.2

end Go.Proofs.YtpjlpnaamkbicaaGreatDoor

/-
  Slices of structs that grow: plain facts of memory.
-/
namespace Go.Proofs.YtpjlpnaamkbicaaGreatDoor
open Go.RowKit
set_option linter.unusedVariables false

theorem ownsRow_nil (w : World) (base e size : Nat) : w.ownsRow base e size (.slice none 0 0) 0 [] := ⟨by simp, .inl ⟨rfl, rfl⟩⟩

theorem ownsRow_ne {w : World} {base e size n g : Nat} {v : Value} {xs : List Value} {cs : Array Value} {e' : Nat} (h : w.ownsRow base e size v n xs) (hg : w.heap[g]? = some (.cells cs e')) (hne : e ≠ e') : v.ownBlock ≠ some g := by
  obtain ⟨_, ⟨rfl, _⟩ | ⟨g', cap, cur, rfl, _, hc, _⟩⟩ := h
  · simp [Value.ownBlock]
  · intro e1
    simp [Value.ownBlock] at e1
    subst e1
    rw [hc] at hg
    simp at hg
    exact hne hg.2

theorem ownsRow_below {w w' : World} {base e size n : Nat} {v : Value} {xs : List Value} (h : w.ownsRow base e size v n xs) (hb : Below w.heap.size w w') : w'.ownsRow base e size v n xs := by
  obtain ⟨hl, h1 | ⟨g, cap, cur, rfl, hbb, hc, r⟩⟩ := h
  · exact ⟨hl, .inl h1⟩
  · exact ⟨hl, .inr ⟨g, cap, cur, rfl, hbb, (hb.block g (Array.getElem?_eq_some_iff.1 hc).1).trans hc, r⟩⟩

theorem ownsRow_base {w : World} {base base' e size n : Nat} {v : Value} {xs : List Value} (h : w.ownsRow base e size v n xs) (hb : base' ≤ base) : w.ownsRow base' e size v n xs := by
  obtain ⟨hl, h1 | ⟨g, cap, cur, rfl, hbb, r⟩⟩ := h
  · exact ⟨hl, .inl h1⟩
  · exact ⟨hl, .inr ⟨g, cap, cur, rfl, Nat.le_trans hb hbb, r⟩⟩

theorem cells_new (w : World) (vs : List Value) (t : TypeId) : ∀ j u, vs[j]? = some u → (w.alloc (.cells vs.toArray t)).cell? ((⟨w.heap.size, 0, none⟩ : Addr).add j) = some u := by
  intro j u hu
  have ea : (⟨w.heap.size, 0, none⟩ : Addr).add j = ⟨w.heap.size, j, none⟩ := by unfold Addr.add; split <;> simp_all
  rw [ea]
  unfold World.cell?
  simp only [heap_alloc_new]
  simpa using hu

theorem take_snoc {α : Type} {l : List α} {j : Nat} {z : α} (h : l[j]? = some z) : l.take (j + 1) = l.take j ++ [z] := by
  obtain ⟨hl, e⟩ := List.getElem?_eq_some_iff.1 h
  rw [← e]; exact List.take_succ_eq_append_getElem hl

theorem drop_cons {α : Type} {l : List α} {j : Nat} {z : α} (h : l[j]? = some z) : l.drop j = z :: l.drop (j + 1) := by
  obtain ⟨hl, e⟩ := List.getElem?_eq_some_iff.1 h
  rw [← e]; exact List.drop_eq_getElem_cons hl

theorem at_lt' {α : Type} {rs : List α} {i : Nat} (h : i < rs.length) : ∃ r, rs[i]? = some r := ⟨rs[i], List.getElem?_eq_getElem h⟩

theorem rs_one {α : Type} {enc : α → List Value} {k : Nat} (w : World) (y : α) (t : TypeId) : Rs enc k (w.alloc (.cells (enc y).toArray t)) (some ⟨w.heap.size, 0, none⟩) [y] := by
  refine .inr ⟨_, 0, rfl, fun i z hz j u hu => ?_⟩
  have hi : i = 0 := by
    have := (List.getElem?_eq_some_iff.1 hz).1
    simp at this; exact this
  subst hi
  simp at hz
  subst hz
  have := cells_new w (enc y) t j u hu
  have ea : (⟨w.heap.size, 0, none⟩ : Addr).add j = ⟨w.heap.size, j, none⟩ := by unfold Addr.add; split <;> simp_all
  rw [ea] at this
  simpa using this


end Go.Proofs.YtpjlpnaamkbicaaGreatDoor

/-
  Structs appended to a slice of one's own, from whatever slice.
-/
namespace Go.Proofs.YtpjlpnaamkbicaaGreatDoor
open Go.RowKit
set_option linter.unusedVariables false

section
variable {α : Type} {enc : α → List Value} {k : Nat}

/-- What is known of slices of type T, of elements of type E that are told by enc. -/
structure ElT (T E : Nat) (enc : α → List Value) (k bytes : Nat) : Prop where
  und : Tryz.prog.underlying T = some (.slice E)
  inf : ∃ i z, Tryz.prog.info? E = some i ∧ i.zero = some z ∧ i.size = k ∧ i.bytes = bytes ∧ z.cells.size = k
  len : ∀ x, (enc x).length = k
  one : ∀ x, ∀ u ∈ enc x, u.oneCell' = true
  pos : 0 < k
  few : bytes ≤ 1000

theorem run_append_none_any {P : Program} (w : World) (base : Nat) (t ty e : TypeId) (i : TypeInfo) (size c : Nat) (ht : P.underlying t = some (.slice e)) (hi : P.info? e = some i)
    (v : Value) (n : Nat) (xs : List Value) (hown : w.ownsRow base e size v n xs) : (Builtin.append_ #[t, t] ty #[v, .slice none 0 c]).run P w = .ok v w := by
  rcases hown.2 with ⟨rfl, rfl⟩ | ⟨g, cap, cur, rfl, _, _, hnc, _⟩
  · simp [Builtin.append_, run_underlying ht, sizeOf, typeInfo, hi, Builtin.lenOf, Builtin.firstCells]
  · simp [Builtin.append_, run_underlying ht, sizeOf, typeInfo, hi, Builtin.lenOf, Builtin.firstCells, hnc, storeCells]

theorem flat_one' (h : ∀ x, ∀ u ∈ enc x, u.oneCell' = true) (xs : List α) : ∀ u ∈ flat enc xs, u.oneCell' = true := by
  intro u hu
  obtain ⟨x, _, hx⟩ := List.mem_flatMap.1 hu
  exact h x u hx

theorem Rs.flatAt {w : World} {b off : Nat} {xs : List α} (hk : ∀ x, (enc x).length = k) (hp : 0 < k) (h : ∀ i x, xs[i]? = some x → ∀ j u, (enc x)[j]? = some u → w.cell? ⟨b, off + i * k + j, none⟩ = some u) : ∀ j u, (flat enc xs)[j]? = some u → w.cell? ((⟨b, off, none⟩ : Addr).add j) = some u := by
  intro j u hu
  have ea : (⟨b, off, none⟩ : Addr).add j = ⟨b, off + j, none⟩ := by unfold Addr.add; split <;> simp_all
  rw [ea]
  have hlt : j < xs.length * k := by rw [← flat_length hk xs]; exact (List.getElem?_eq_some_iff.1 hu).1
  have hi : j / k < xs.length := Nat.div_lt_of_lt_mul (by rw [Nat.mul_comm]; exact hlt)
  have hx : xs[j / k]? = some xs[j / k] := List.getElem?_eq_getElem hi
  have hm := Nat.mod_lt j hp
  have hj : j / k * k + j % k = j := by rw [Nat.mul_comm]; exact Nat.div_add_mod j k
  have e := flat_at hk xs (j / k) (j % k) _ hx hm
  rw [hj, hu] at e
  have := h _ _ hx (j % k) u e.symm
  rw [Nat.add_assoc, hj] at this
  exact this

theorem run_append_sl {T E bytes : Nat} (L : ElT T E enc k bytes) (w : World) (base : Nat) (ty : TypeId) (v : Value) (xs ys : List α) (x : Option Addr) (c : Nat) (hown : w.ownsRow base E k v xs.length (flat enc xs)) (hr : Rs enc k w x ys) (hl : xs.length + ys.length ≤ 100000000) (hb : base ≤ w.heap.size) :
    ∃ v' w', (Builtin.append_ #[T, T] ty #[v, .slice x ys.length c]).run Tryz.prog w = .ok v' w' ∧ w'.ownsRow base E k v' (xs ++ ys).length (flat enc (xs ++ ys)) ∧ w.grownBy w' v.ownBlock ∧ (v'.ownBlock = v.ownBlock ∨ v'.ownBlock = some w.heap.size) := by
  obtain ⟨i0, z, hi0, hz0, hz1, hz2, hz3⟩ := L.inf
  have hf := L.few
  have fin : ∀ (a : Addr), x = some a → (∀ j u, (flat enc ys)[j]? = some u → w.cell? (a.add j) = some u) → ∃ v' w', (Builtin.append_ #[T, T] ty #[v, .slice x ys.length c]).run Tryz.prog w = .ok v' w' ∧ w'.ownsRow base E k v' (xs ++ ys).length (flat enc (xs ++ ys)) ∧ w.grownBy w' v.ownBlock ∧ (v'.ownBlock = v.ownBlock ∨ v'.ownBlock = some w.heap.size) := fun a ha hc => by
    subst ha
    obtain ⟨v', w', h1, h2, h3, _, h5⟩ := run_append_own_at (P := Tryz.prog) w base T ty E i0 z k bytes L.und hi0 hz0 hz1 hz2 hz3 L.pos v xs.length (flat enc xs) hown a ys.length c (flat enc ys) (flat_length L.len ys) hc (flat_one' L.one ys) (by unfold maxLen; omega) (by
      have : (xs.length + ys.length) * bytes ≤ 100000000 * 1000 := Nat.mul_le_mul hl hf
      omega) hb
    exact ⟨v', w', h1, by rw [List.length_append, flat_append]; exact h2, h3, h5⟩
  rcases hr with h | ⟨b, off, ha, hc⟩
  · subst h
    cases x with
    | some a => exact fin a rfl (fun j u h => by simp [flat] at h)
    | none => exact ⟨v, w, run_append_none_any w base T ty E i0 k c L.und hi0 v xs.length _ hown, by rw [List.append_nil]; exact hown, ⟨rfl, rfl, rfl, Nat.le_refl _, fun _ _ _ => rfl⟩, .inl rfl⟩
  · exact fin ⟨b, off, none⟩ ha (Rs.flatAt L.len L.pos hc)

theorem wp_append_sl {T E bytes : Nat} (L : ElT T E enc k bytes) (w : World) {o : Oper} {a : Act} {K : Act → World → Prop} {Q : Exit → Act → World → Prop} (s x : Operand)
    (ho : o.op = .call { callee := .builtin .append, args := #[s, x], argTypes := #[T, T] }) (base : Nat) (v : Value) (xs ys : List α) (ax : Option Addr) (n c : Nat) (hs : a.eval s = v) (hx : a.eval x = .slice ax n c) (hn : ys.length = n)
    (hown : w.ownsRow base E k v xs.length (flat enc xs)) (hr : Rs enc k w ax ys) (hl : xs.length + ys.length ≤ 100000000) (hb : base ≤ w.heap.size)
    (h : ∀ v' w', w'.ownsRow base E k v' (xs ++ ys).length (flat enc (xs ++ ys)) → w.grownBy w' v.ownBlock → (v'.ownBlock = v.ownBlock ∨ v'.ownBlock = some w.heap.size) → K (a.put o.dst v') w') : o.wp Tryz.prog a w K Q := by
  subst hn
  obtain ⟨v', w', h1, h2, h3, h4⟩ := run_append_sl L w base o.type v xs ys ax c hown hr hl hb
  exact Go.Lib.wp_append_run w s x T T ho v _ hs hx v' w' h1 (h v' w' h2 h3 h4)

theorem wpList_append_sl {T E bytes : Nat} (L : ElT T E enc k bytes) (w : World) {ops : Array Oper} {rest : List Oper} {o : Oper} {a : Act} {Q : Exit → Act → World → Prop} (hgd : o.guard = none) (s x : Operand)
    (ho : o.op = .call { callee := .builtin .append, args := #[s, x], argTypes := #[T, T] }) (base : Nat) (v : Value) (xs ys : List α) (ax : Option Addr) (n c : Nat) (hs : a.eval s = v) (hx : a.eval x = .slice ax n c) (hn : ys.length = n)
    (hown : w.ownsRow base E k v xs.length (flat enc xs)) (hr : Rs enc k w ax ys) (hl : xs.length + ys.length ≤ 100000000) (hb : base ≤ w.heap.size)
    (h : ∀ v' w', w'.ownsRow base E k v' (xs ++ ys).length (flat enc (xs ++ ys)) → w.grownBy w' v.ownBlock → (v'.ownBlock = v.ownBlock ∨ v'.ownBlock = some w.heap.size) → wpList Tryz.prog ops Q rest (a.put o.dst v') w') : wpList Tryz.prog ops Q (o :: rest) a w :=
  wpList_plain hgd fun _ hK => wp_append_sl L w s x ho base v xs ys ax n c hs hx hn hown hr hl hb (fun v' w' h1 h2 h3 => hK _ _ (h v' w' h1 h2 h3))

/-- One element, laid in a new block of its own. -/
theorem wpList_append_one {T E bytes : Nat} (L : ElT T E enc k bytes) (w : World) {ops : Array Oper} {rest : List Oper} {o : Oper} {a : Act} {Q : Exit → Act → World → Prop} (hgd : o.guard = none) (s x : Operand)
    (ho : o.op = .call { callee := .builtin .append, args := #[s, x], argTypes := #[T, T] }) (base : Nat) (v : Value) (xs : List α) (y : α) (hs : a.eval s = v) (hx : a.eval x = .slice (some ⟨w.heap.size, 0, none⟩) 1 1)
    (hown : w.ownsRow base E k v xs.length (flat enc xs)) (hl : xs.length + 1 ≤ 100000000) (hb : base ≤ w.heap.size) (t : TypeId)
    (h : ∀ v' w', w'.ownsRow base E k v' (xs ++ [y]).length (flat enc (xs ++ [y])) → (w.alloc (.cells (enc y).toArray t)).grownBy w' v.ownBlock → (v'.ownBlock = v.ownBlock ∨ v'.ownBlock = some (w.heap.size + 1)) → wpList Tryz.prog ops Q rest (a.put o.dst v') w') : wpList Tryz.prog ops Q (o :: rest) a (w.alloc (.cells (enc y).toArray t)) := by
  have hb' : Below w.heap.size w (w.alloc (.cells (enc y).toArray t)) := (Below.refl _ _).alloc (Nat.le_refl _) _
  refine wpList_append_sl L _ hgd s x ho base v xs [y] (some ⟨w.heap.size, 0, none⟩) 1 1 hs hx rfl (ownsRow_below hown hb') (.inr ⟨_, 0, rfl, fun i z hz j u hu => ?_⟩) (by simpa using hl) (Nat.le_trans hb hb'.size) (fun v' w' h1 h2 h3 => h v' w' h1 h2 (by simpa using h3))
  have hi : i = 0 := by
    have := (List.getElem?_eq_some_iff.1 hz).1
    simp at this; exact this
  subst hi
  simp at hz
  subst hz
  have := cells_new w (enc y) t j u hu
  have ea : (⟨w.heap.size, 0, none⟩ : Addr).add j = ⟨w.heap.size, j, none⟩ := by unfold Addr.add; split <;> simp_all
  rw [ea] at this
  simpa using this
end

end Go.Proofs.YtpjlpnaamkbicaaGreatDoor

/-
  Marks: markText, markRowS, heldRowS, markByteSS.
-/
namespace Go.Proofs.YtpjlpnaamkbicaaGreatDoor
open Go.RowKit
set_option linter.unusedVariables false

theorem wrapI' {x : Int} (h0 : -9223372036854775808 ≤ x) (h1 : x ≤ 9223372036854775807) : IntKind.i64.wrap x = x := by rw [IntKind.wrap_i64]; omega
theorem wrapU' {x : Int} (h0 : 0 ≤ x) (h1 : x ≤ 255) : IntKind.u8.wrap x = x := by simp [IntKind.wrap, IntKind.bits, IntKind.signed]; omega

/-- The byte of a digit. -/
def dgB (d : Nat) : UInt8 := UInt8.ofNat (48 + d)
def mtF (k : Nat) (out : ByteArray) : ByteArray := if h : k = 0 then out else mtF (k / 10) (⟨#[dgB (k % 10)]⟩ ++ out)
termination_by k
decreasing_by omega
/-- The text of a mark. -/
def mtx (n : Nat) : ByteArray := ⟨#[109]⟩ ++ mtF n ⟨#[]⟩

theorem conv_cell (W : World) (b d : Nat) (hc : W.cell? ⟨b, 0, none⟩ = some (.int .u8 (48 + (d : Nat)))) :
    (convert 178 9 (.slice (some ⟨b, 0, none⟩) 1 1)).run Tryz.prog W = .ok (.string ⟨#[dgB d]⟩) W := by
  have h := run_convert_bytes_arg (P := Tryz.prog) W 178 5 Tryz.underlying178 Tryz.underlying5 b 0 1 1 [48 + (d : Nat)] rfl (fun i hi => by
    have : i = 0 := by omega
    subst this
    simpa using hc) 9 Tryz.underlying9
  have e : strOfNums [48 + (d : Nat)] = ⟨#[dgB d]⟩ := by
    show (⟨#[UInt8.ofNat (48 + (d : Int)).toNat]⟩ : ByteArray) = _
    rw [show (48 + (d : Int)).toNat = 48 + d by omega]
    rfl
  rw [← e]
  exact h
theorem conv_lit (D : World) (d : Nat) (hd : d < 10) :
    (convert 178 9 (.slice (some ⟨D.heap.size, 0, none⟩) 1 1)).run Tryz.prog (D.alloc (.cells #[.int .u8 (48 + (d : Nat))] 5)) = .ok (.string ⟨#[dgB d]⟩) (D.alloc (.cells #[.int .u8 (48 + (d : Nat))] 5)) :=
  conv_cell _ _ d (by simp [go_sem])

theorem SlIn.set1 {lo hi b off i c : Nat} {w : World} {xs : List Rw} {x x' : Rw} {v : Value} (h : SlIn rwE 4 lo hi w (some ⟨b, off, none⟩) xs) (hx : xs[i]? = some x) (hc : c < 4) (he : rwE x' = (rwE x).set c v) :
    SlIn rwE 4 lo hi (w.setCell ⟨b, off + i * 4 + c, none⟩ v) (some ⟨b, off, none⟩) (xs.set i x') := by
  rcases h with rfl | ⟨b', off', e, h1, h2, hcs⟩
  · simp at hx
  · cases e
    have hil : i < xs.length := (List.getElem?_eq_some_iff.1 hx).1
    refine .inr ⟨b, off, rfl, h1, h2, fun i' y hy j u hu => ?_⟩
    rw [World.frozen?_setCell]
    by_cases e1 : i' = i
    · subst e1
      rw [List.getElem?_set_self hil] at hy
      cases hy
      rw [he] at hu
      have hj : j < 4 := by
        have := (List.getElem?_eq_some_iff.1 hu).1
        rw [List.length_set, rwE_len] at this
        exact this
      obtain ⟨u0, hu0⟩ : ∃ u0, (rwE x)[j]? = some u0 := ⟨_, List.getElem?_eq_getElem (by rw [rwE_len]; exact hj)⟩
      have hold := hcs i' x hx j u0 hu0
      by_cases e2 : j = c
      · subst e2
        rw [List.getElem?_set_self (by rw [rwE_len]; exact hj)] at hu
        cases hu
        exact ⟨World.cell?_setCell_same _ _ _ hold.1, hold.2⟩
      · rw [List.getElem?_set_ne (fun e => e2 e.symm)] at hu
        rw [hu0] at hu
        cases hu
        rw [World.cell?_setCell_other _ _ _ _ (fun e => e2 (by have := congrArg Addr.off e; simp at this; omega))]
        exact hold
    · rw [List.getElem?_set_ne (fun e => e1 e.symm)] at hy
      have hold := hcs i' y hy j u hu
      have hj : j < 4 := by
        have := (List.getElem?_eq_some_iff.1 hu).1
        rw [rwE_len] at this
        exact this
      rw [World.cell?_setCell_other _ _ _ _ (fun e => e1 (by have := congrArg Addr.off e; simp at this; omega))]
      exact hold

theorem SlIn.at4 {lo hi b off i : Nat} {w : World} {xs : List Rw} {x : Rw} (h : SlIn rwE 4 lo hi w (some ⟨b, off, none⟩) xs) (hx : xs[i]? = some x) : lo ≤ b ∧ b < hi ∧ RowC w b (off + i * 4) x ∧ ∀ c, c < 4 → w.frozen? ⟨b, off + i * 4 + c, none⟩ = false := by
  rcases h with rfl | ⟨b', off', e, h1, h2, hcs⟩
  · simp at hx
  · cases e
    refine ⟨h1, h2, RowC.of (fun j u hu => (hcs i x hx j u hu).1), fun c hc => ?_⟩
    exact (hcs i x hx c _ (List.getElem?_eq_getElem (by rw [rwE_len]; exact hc))).2

/-- The i-th row of marks. -/
def mkR (k : Nat) (i : Nat) : Rw := ⟨(k + 4 * i : Nat), (k + 4 * i + 1 : Nat), (k + 4 * i + 2 : Nat), mtx (k + 4 * i + 3)⟩
def mkL (k j : Nat) (rs : List Rw) : List Rw := (List.range j).map (mkR k) ++ rs.drop j
theorem mkL_len {k j : Nat} {rs : List Rw} (h : j ≤ rs.length) : (mkL k j rs).length = rs.length := by simp [mkL]; omega
theorem mkL_at {k j : Nat} {rs : List Rw} (h : j < rs.length) : ∃ x, (mkL k j rs)[j]? = some x := ⟨_, List.getElem?_eq_getElem (by rw [mkL_len (by omega)]; exact h)⟩
theorem mkL_set {k j : Nat} {rs : List Rw} (h : j < rs.length) : (mkL k j rs).set j (mkR k j) = mkL k (j + 1) rs := by
  unfold mkL
  rw [List.range_succ, List.map_append, List.set_append_right _ _ (by simp), List.length_map, List.length_range, Nat.sub_self, List.append_assoc]
  congr 1
  rw [show rs.drop j = rs[j] :: rs.drop (j + 1) from List.drop_eq_getElem_cons h]
  rfl
theorem mkL_all {k : Nat} {rs : List Rw} : mkL k rs.length rs = (List.range rs.length).map (mkR k) := by unfold mkL; rw [List.drop_length, List.append_nil]

theorem RowC.lt {w : World} {b o : Nat} {r : Rw} (h : RowC w b o r) : b < w.heap.size := World.block_lt_of_cell? w _ h.c0

end Go.Proofs.YtpjlpnaamkbicaaGreatDoor
