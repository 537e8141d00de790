/-
  Transactions that came in; the law FnExactTxsFault answers true.
-/
import Derived.Test.YtddemhgimacchaaTxm
import Derived.Test.YtddemhgimacchaaCho
namespace Go.Proofs.Ytddemhgimacchaa
open Go.ChangeShapes Go.WideShapes Go.RowKit Go.Maps
set_option linter.unusedVariables false
set_option maxRecDepth 20000

instance : Inhabited K2 := ⟨⟨0, 0⟩⟩
instance : Inhabited TxV := ⟨⟨0, [], [], []⟩⟩
theorem rs_of {α : Type} {enc : α → List Value} {k len : Nat} {W : World} {y : Addr} (q : Nat → α) (hne : ∀ x, ∃ u, (enc x)[0]? = some u) (hq : ∀ i, i < len → ∀ j u, (enc (q i))[j]? = some u → W.cell? (y.add (i * k + j)) = some u) : Rs enc k W (some y) ((List.range len).map q) := by
  by_cases h0 : len = 0
  · subst h0; exact .inl rfl
  · obtain ⟨b, off, spot⟩ := y
    obtain ⟨u, hu⟩ := hne (q 0)
    have hc0 := hq 0 (by omega) 0 u hu
    have hspot : spot = none := by simpa [Addr.add] using World.cell?_spot hc0
    subst hspot
    have ea : ∀ i, (⟨b, off, none⟩ : Addr).add i = ⟨b, off + i, none⟩ := by intro i; unfold Addr.add; split <;> simp_all
    refine .inr ⟨b, off, rfl, fun i r hr j u hu => ?_⟩
    obtain ⟨hi, rfl⟩ := list_of_fun q len hr
    have q0 := hq i hi j u hu
    rw [ea, ← Nat.add_assoc] at q0
    exact q0
theorem open_nums {H : Type} {enc : TypeId × Value → H} {W : World} {base : Nat} {held : Bool} {fuel : Nat} {a : Option Addr} {len cap : Nat} {x : DataW H × List MemPlace}
    (h : DataW.trod enc Try.prog W base (fun _ => true) held fuel 122 [.slice a len cap] = some x) : ∃ ms : List Int, ms.length = len ∧ len ≤ maxLen ∧ Rs inE 1 W a ms := by
  have hml : maxLen = 9223372036854775807 := by decide
  rcases Go.Deep.open_slice Try.underlying122 h with ⟨hcs, _⟩ | ⟨y, l, c, m, n, Dd, Pl, hcs, hb, hl, hm, hmm, _, hx⟩
  · simp only [List.cons.injEq, Value.slice.injEq, and_true] at hcs
    obtain ⟨rfl, rfl, rfl⟩ := hcs
    exact ⟨[], rfl, by omega, .inl rfl⟩
  · simp only [List.cons.injEq, Value.slice.injEq, and_true] at hcs
    obtain ⟨rfl, rfl, rfl⟩ := hcs
    simp only [if_true] at hmm
    subst hmm
    have ce : Try.prog.cellsOf 2 = 1 := by kernel_rfl
    have each : ∀ i, i < len → ∃ q : Int, ∀ j u, (inE q)[j]? = some u → W.cell? (y.add (i * 1 + j)) = some u := by
      intro i hi
      obtain ⟨cs', h1, h2⟩ := hx i (by omega)
      rw [ce] at h1
      obtain ⟨_, hlen, hcell⟩ := World.cells?_some h1
      obtain ⟨p, e0, _, _⟩ := DataW.trod_int Try.underlying2 h2
      subst e0
      refine ⟨p, fun j u hu => ?_⟩
      have hj : j < 1 := by
        have := (List.getElem?_eq_some_iff.1 hu).1
        rw [inE_len] at this
        exact this
      have k0 := hcell j (by simpa using hj)
      rw [Go.Deep.add_add] at k0
      rw [k0]
      exact hu
    obtain ⟨q, hq⟩ := Go.Deep.choose_lt each
    exact ⟨(List.range len).map q, by simp, by omega, rs_of q (fun x => ⟨_, rfl⟩) hq⟩
theorem two2 {α : Type} (xs : List α) (h : xs.length = 2) : ∃ a b, xs = [a, b] := by
  match xs, h with
  | [a, b], _ => exact ⟨a, b, rfl⟩
theorem open_keys {H : Type} {enc : TypeId × Value → H} {W : World} {base : Nat} {held : Bool} {fuel : Nat} {a : Option Addr} {len cap : Nat} {x : DataW H × List MemPlace}
    (h : DataW.trod enc Try.prog W base (fun _ => true) held fuel 123 [.slice a len cap] = some x) : ∃ ls : List K2, ls.length = len ∧ len ≤ maxLen ∧ Rs kyE 2 W a ls := by
  have hml : maxLen = 9223372036854775807 := by decide
  rcases Go.Deep.open_slice Try.underlying123 h with ⟨hcs, _⟩ | ⟨y, l, c, m, n, Dd, Pl, hcs, hb, hl, hm, hmm, _, hx⟩
  · simp only [List.cons.injEq, Value.slice.injEq, and_true] at hcs
    obtain ⟨rfl, rfl, rfl⟩ := hcs
    exact ⟨[], rfl, by omega, .inl rfl⟩
  · simp only [List.cons.injEq, Value.slice.injEq, and_true] at hcs
    obtain ⟨rfl, rfl, rfl⟩ := hcs
    simp only [if_true] at hmm
    subst hmm
    have ce : Try.prog.cellsOf 57 = 2 := by kernel_rfl
    have each : ∀ i, i < len → ∃ q : K2, ∀ j u, (kyE q)[j]? = some u → W.cell? (y.add (i * 2 + j)) = some u := by
      intro i hi
      obtain ⟨cs', h1, h2⟩ := hx i (by omega)
      rw [ce] at h1
      obtain ⟨_, hlen, hcell⟩ := World.cells?_some h1
      obtain ⟨xs, k, hk, hxy, _, hxl, hf⟩ := DataW.trod_struct Try.underlying57 h2
      have hx2 : xs.length = 2 := hxl
      clear hxl
      obtain ⟨y0, y1, rfl⟩ := two2 xs hx2
      obtain ⟨v0, v1, rfl⟩ := two2 cs' hlen
      have g0 := hf 0 _ rfl
      have g1 := hf 1 _ rfl
      have c2 : Try.prog.cellsOf 2 = 1 := by kernel_rfl
      simp [c2] at g0 g1
      obtain ⟨t0, e0, _, _⟩ := DataW.trod_int Try.underlying2 g0
      obtain ⟨t1, e1, _, _⟩ := DataW.trod_int Try.underlying2 g1
      simp only [List.cons.injEq, and_true] at e0 e1
      subst e0 e1
      refine ⟨⟨t0, t1⟩, fun j u hu => ?_⟩
      have hj : j < 2 := by
        have := (List.getElem?_eq_some_iff.1 hu).1
        rw [kyE_len] at this
        exact this
      have k0 := hcell j (by omega)
      rw [Go.Deep.add_add] at k0
      rw [k0]
      exact hu
    obtain ⟨q, hq⟩ := Go.Deep.choose_lt each
    exact ⟨(List.range len).map q, by simp, by omega, rs_of q (fun x => ⟨_, rfl⟩) hq⟩
theorem slice_form {H : Type} {enc : TypeId × Value → H} {W : World} {base : Nat} {held : Bool} {fuel : Nat} {T E : TypeId} {v : Value} {x : DataW H × List MemPlace} (hu : Try.prog.underlying T = some (.slice E))
    (h : DataW.trod enc Try.prog W base (fun _ => true) held fuel T [v] = some x) : ∃ a l c, v = .slice a l c := by
  rcases Go.Deep.open_slice hu h with ⟨hcs, _⟩ | ⟨y, l, c, m, n, Dd, Pl, hcs, _⟩
  · simp only [List.cons.injEq, and_true] at hcs
    exact ⟨_, _, _, hcs⟩
  · simp only [List.cons.injEq, and_true] at hcs
    exact ⟨_, _, _, hcs⟩
theorem open_txs {H : Type} {enc : TypeId × Value → H} {W : World} {base : Nat} {held : Bool} {fuel : Nat} {a : Option Addr} {len cap : Nat} {x : DataW H × List MemPlace}
    (h : DataW.trod enc Try.prog W base (fun _ => true) held fuel 49 [.slice a len cap] = some x) : ∃ xs, IsTxs W a len xs := by
  have hml : maxLen = 9223372036854775807 := by decide
  rcases Go.Deep.open_slice Try.underlying49 h with ⟨hcs, _⟩ | ⟨y, l, c, m, n, Dd, Pl, hcs, hb, hl, hm, hmm, _, hx⟩
  · simp only [List.cons.injEq, Value.slice.injEq, and_true] at hcs
    obtain ⟨rfl, rfl, rfl⟩ := hcs
    exact ⟨[], .inl rfl, rfl, by omega, fun r hr => by simp at hr⟩
  · simp only [List.cons.injEq, Value.slice.injEq, and_true] at hcs
    obtain ⟨rfl, rfl, rfl⟩ := hcs
    simp only [if_true] at hmm
    subst hmm
    have ce : Try.prog.cellsOf 125 = 4 := by kernel_rfl
    have each : ∀ i, i < len → ∃ q : (TxV × (Option Addr × Nat) × (Option Addr × Nat) × (Option Addr × Nat)), (W.cell? (y.add (i * 4)) = some (.int .i64 q.1.id) ∧ W.cell? (y.add (i * 4 + 1)) = some (.slice q.2.1.1 q.1.u.length q.2.1.2) ∧ W.cell? (y.add (i * 4 + 2)) = some (.slice q.2.2.1.1 q.1.m.length q.2.2.1.2) ∧ W.cell? (y.add (i * 4 + 3)) = some (.slice q.2.2.2.1 q.1.l.length q.2.2.2.2)) ∧ Rs chE 10 W q.2.1.1 q.1.u ∧ Rs inE 1 W q.2.2.1.1 q.1.m ∧ Rs kyE 2 W q.2.2.2.1 q.1.l ∧ TxOk maxLen q.1 := by
      intro i hi
      obtain ⟨cs', h1, h2⟩ := hx i (by omega)
      rw [ce] at h1
      obtain ⟨_, hlen, hcell⟩ := World.cells?_some h1
      obtain ⟨xs, k, hk, hxy, _, hxl, hf⟩ := DataW.trod_struct Try.underlying125 h2
      have hx4 : xs.length = 4 := hxl
      clear hxl
      obtain ⟨y0, y1, y2, y3, rfl⟩ := four xs hx4
      obtain ⟨v0, v1, v2, v3, rfl⟩ := four cs' hlen
      have g0 := hf 0 _ rfl
      have g1 := hf 1 _ rfl
      have g2 := hf 2 _ rfl
      have g3 := hf 3 _ rfl
      have c2 : Try.prog.cellsOf 2 = 1 := by kernel_rfl
      have d1 : Try.prog.cellsOf 83 = 1 := by kernel_rfl
      have d2 : Try.prog.cellsOf 122 = 1 := by kernel_rfl
      have d3 : Try.prog.cellsOf 123 = 1 := by kernel_rfl
      simp [c2, d1, d2, d3] at g0 g1 g2 g3
      obtain ⟨t0, e0, _, _⟩ := DataW.trod_int Try.underlying2 g0
      simp only [List.cons.injEq, and_true] at e0
      subst e0
      obtain ⟨ua, un, uc, rfl⟩ := slice_form Try.underlying83 g1
      obtain ⟨ma, mn, mc, rfl⟩ := slice_form Try.underlying122 g2
      obtain ⟨la, ln, lc, rfl⟩ := slice_form Try.underlying123 g3
      obtain ⟨us, hu⟩ := open_chgs g1
      obtain ⟨ms, hm1, hm2, hm3⟩ := open_nums g2
      obtain ⟨ls, hl1, hl2, hl3⟩ := open_keys g3
      have hu1 := hu.eq
      subst hu1 hm1 hl1
      have k0 := hcell 0 (by omega)
      have k1 := hcell 1 (by omega)
      have k2 := hcell 2 (by omega)
      have k3 := hcell 3 (by omega)
      rw [Go.Deep.add_add] at k0 k1 k2 k3
      exact ⟨(⟨t0, us, ms, ls⟩, (ua, uc), (ma, mc), (la, lc)), ⟨k0, k1, k2, k3⟩, hu.rd, hm3, hl3, by have := hu.ln; dsimp only; omega, hu.sz, hm2, hl2⟩
    obtain ⟨q, hq⟩ := Go.Deep.choose_lt each
    refine ⟨(List.range len).map (fun i => (q i).1), ?_, by simp, by omega, ?_⟩
    · by_cases h0 : len = 0
      · subst h0; exact .inl rfl
      · obtain ⟨b, off, spot⟩ := y
        have hc0 := (hq 0 (by omega)).1.1
        have hspot : spot = none := by simpa [Addr.add] using World.cell?_spot hc0
        subst hspot
        have ea : ∀ i, (⟨b, off, none⟩ : Addr).add i = ⟨b, off + i, none⟩ := by intro i; unfold Addr.add; split <;> simp_all
        refine .inr ⟨b, off, rfl, fun i r hr => ?_⟩
        obtain ⟨hi, rfl⟩ := list_of_fun (fun i => (q i).1) len hr
        obtain ⟨⟨k0, k1, k2, k3⟩, r1, r2, r3, _⟩ := hq i hi
        rw [ea] at k0 k1 k2 k3
        rw [← Nat.add_assoc] at k1 k2 k3
        exact ⟨_, _, _, _, _, _, k0, k1, k2, k3, r1, r2, r3⟩
    · intro r hr
      obtain ⟨i, hi, rfl⟩ := List.mem_map.1 hr
      exact (hq i (by simpa using hi)).2.2.2.2

set_option maxHeartbeats 2000000 in
theorem specTxsFault_any (a : Option Addr) (xs : List TxV) (n c : Nat) (w : World) (hn : xs.length = n) (hm : n ≤ 1048576) (hs : ∀ x ∈ xs, TxOk 1048576 x) (hr : TxRd w a xs) :
    Calls Try.prog 24 #[.slice a n c] w fun e w' => e = .returned (.int .i64 (txsQ xs)) ∧ Below w.heap.size w w' := by
  have hcon := l10Fault_any a xs n c w hn hm hs hr
  clear hn hs hr
  go_enter Try.func24, Try.ntmps24
  go_wp2_with fail
  refine hcon.mono ?_
  rintro e w1 ⟨rfl, g1⟩
  clear hcon
  go_wp2_with fail
  go_ret
  exact ⟨rfl, g1⟩

set_option maxHeartbeats 4000000 in
theorem lawTxsFault_any (a : Option Addr) (n c : Nat) (xs : List TxV) (w : World) (h : IsTxs w a n xs) :
    Calls Try.prog 5 #[.slice a n c] w fun e w' => e = .returned (.bool true) ∧ Below w.heap.size w w' := by
  have HR : Hid (∀ V, Below w.heap.size w V → TxRd V a xs) := fun V hV => h.rd.below hV (Nat.le_refl _)
  have HN : Hid (xs.length = n) := h.eq
  have hsz := szTxS_any a xs n c w 1048576 h (by omega) (by omega)
  clear h
  go_enter Try.func5, Try.ntmps5
  go_wp2_with fail
  refine hsz.mono ?_
  rintro e w1 ⟨⟨r, rfl, hr1, hl⟩, g1⟩
  clear hsz
  by_cases h0 : r < 0
  · go_wp2_with fail
    go_ret
    exact ⟨rfl, g1⟩
  obtain ⟨hn, hs⟩ := hl (by omega)
  have HS : Hid (∀ x ∈ xs, TxOk 1048576 x) := hs
  have h0' : ¬ r < 0 := h0
  clear hl hs h0
  go_wp2_with fail
  refine (toTxS_any a xs n c _ HN.out hn HS.out (HR.out _ g1)).mono ?_
  rintro e w2 ⟨rfl, g2, o2⟩
  have g := g1.trans (g2.mono g1.size)
  clear g1 g2
  go_wp2_with fail
  refine (specTxsFault_any _ xs n n _ HN.out hn HS.out o2.rd).mono ?_
  rintro e w3 ⟨rfl, g3⟩
  have g := g.trans (g3.mono g.size)
  clear g3 o2
  go_wp2_with fail
  refine (toTxS_any a xs n c _ HN.out hn HS.out (HR.out _ g)).mono ?_
  rintro e w4 ⟨rfl, g4, o4⟩
  have g := g.trans (g4.mono g.size)
  clear g4
  generalize w3.heap.size = b4 at o4 ⊢
  go_wp2_with fail
  refine (implTxsFault_any _ xs n n _ HN.out hn HS.out o4).mono ?_
  rintro e w5 ⟨rfl, g5⟩
  rw [txs_eq]
  have o4 := o4.rd.below g5 (Nat.le_refl _)
  have g := g.trans (g5.mono g.size)
  clear g5
  generalize txsQ xs = q
  go_wp2_with fail
  refine (toTxS_any a xs n c _ HN.out hn HS.out (HR.out _ g)).mono ?_
  rintro e w6 ⟨rfl, g6, o6⟩
  have o4 := o4.below g6 (Nat.le_refl _)
  have g := g.trans (g6.mono g.size)
  clear g6
  generalize w5.heap.size = b6 at o6 ⊢
  go_wp2_with fail
  refine (eqTxS_same _ _ xs n n n _ HN.out HS.out (by omega) o4 o6.rd).mono ?_
  rintro e w7 ⟨rfl, g7⟩
  have g := g.trans (g7.mono g.size)
  clear g7 o4 o6
  go_wp2_with fail
  go_ret
  exact ⟨rfl, g⟩

end Go.Proofs.Ytddemhgimacchaa

