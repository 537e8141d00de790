/-
  Transactions that came in; the law FnExactTxsFault answers true.
-/
import Derived.Test.YtpjlpnaamkbicaaGreatDoorCKTxm
import Derived.Test.YtpjlpnaamkbicaaGreatDoorCKCht
import Derived.Test.YtpjlpnaamkbicaaGreatDoorCKOpi
import Derived.Test.YtpjlpnaamkbicaaGreatDoorCKRdw

namespace Go.Proofs.YtpjlpnaamkbicaaGreatDoor
open Go.ChangeShapes Go.WideShapes Go.RowKit Go.Maps
set_option linter.unusedVariables false
set_option maxRecDepth 20000

instance : Inhabited K2 := ⟨⟨0, 0⟩⟩
instance : Inhabited TxV := ⟨⟨0, [], [], []⟩⟩
theorem rs_of {α : Type} {enc : α → List Value} {k len : Nat} {W : World} {y : Addr} (q : Nat → α) (hne : ∀ x, ∃ u, (enc x)[0]? = some u) (hq : ∀ i, i < len → ∀ j u, (enc (q i))[j]? = some u → W.cell? (y.add (i * k + j)) = some u) : Rs enc k W (some y) ((List.range len).map q) := by
  by_cases h0 : len = 0
  · subst h0; exact .inl rfl
  · obtain ⟨b, off, spot⟩ := y
    obtain ⟨u, hu⟩ := hne (q 0)
    have hc0 := hq 0 (by omega) 0 u hu
    have hspot : spot = none := by simpa [Addr.add] using World.cell?_spot hc0
    subst hspot
    have ea : ∀ i, (⟨b, off, none⟩ : Addr).add i = ⟨b, off + i, none⟩ := by intro i; unfold Addr.add; split <;> simp_all
    refine .inr ⟨b, off, rfl, fun i r hr j u hu => ?_⟩
    obtain ⟨hi, rfl⟩ := list_of_fun q len hr
    have q0 := hq i hi j u hu
    rw [ea, ← Nat.add_assoc] at q0
    exact q0
theorem open_nums {H : Type} {enc : TypeId × Value → H} {W : World} {base : Nat} {held : Bool} {fuel : Nat} {a : Option Addr} {len cap : Nat} {x : DataW H × List MemPlace}
    (h : DataW.trod enc Tryz.prog W base (fun _ => true) held fuel 51 [.slice a len cap] = some x) : ∃ ms : List Int, ms.length = len ∧ len ≤ maxLen ∧ Rs inE 1 W a ms := by
  have hml : maxLen = 9223372036854775807 := by decide
  rcases Go.Deep.open_slice Tryz.underlying51 h with ⟨hcs, _⟩ | ⟨y, l, c, m, n, Dd, Pl, hcs, hb, hl, hm, hmm, _, hx⟩
  · simp only [List.cons.injEq, Value.slice.injEq, and_true] at hcs
    obtain ⟨rfl, rfl, rfl⟩ := hcs
    exact ⟨[], rfl, by omega, .inl rfl⟩
  · simp only [List.cons.injEq, Value.slice.injEq, and_true] at hcs
    obtain ⟨rfl, rfl, rfl⟩ := hcs
    simp only [if_true] at hmm
    subst hmm
    have ce : Tryz.prog.cellsOf 2 = 1 := by kernel_rfl
    have each : ∀ i, i < len → ∃ q : Int, ∀ j u, (inE q)[j]? = some u → W.cell? (y.add (i * 1 + j)) = some u := by
      intro i hi
      obtain ⟨cs', h1, h2⟩ := hx i (by omega)
      rw [ce] at h1
      obtain ⟨_, hlen, hcell⟩ := World.cells?_some h1
      obtain ⟨p, e0, _, _⟩ := DataW.trod_int Tryz.underlying2 h2
      subst e0
      refine ⟨p, fun j u hu => ?_⟩
      have hj : j < 1 := by
        have := (List.getElem?_eq_some_iff.1 hu).1
        rw [inE_len] at this
        exact this
      have k0 := hcell j (by simpa using hj)
      rw [Go.Deep.add_add] at k0
      rw [k0]
      exact hu
    obtain ⟨q, hq⟩ := Go.Deep.choose_lt each
    exact ⟨(List.range len).map q, by simp, by omega, rs_of q (fun x => ⟨_, rfl⟩) hq⟩
theorem two2 {α : Type} (xs : List α) (h : xs.length = 2) : ∃ a b, xs = [a, b] := by
  match xs, h with
  | [a, b], _ => exact ⟨a, b, rfl⟩
theorem open_keys {H : Type} {enc : TypeId × Value → H} {W : World} {base : Nat} {held : Bool} {fuel : Nat} {a : Option Addr} {len cap : Nat} {x : DataW H × List MemPlace}
    (h : DataW.trod enc Tryz.prog W base (fun _ => true) held fuel 52 [.slice a len cap] = some x) : ∃ ls : List K2, ls.length = len ∧ len ≤ maxLen ∧ Rs kyE 2 W a ls := by
  have hml : maxLen = 9223372036854775807 := by decide
  rcases Go.Deep.open_slice Tryz.underlying52 h with ⟨hcs, _⟩ | ⟨y, l, c, m, n, Dd, Pl, hcs, hb, hl, hm, hmm, _, hx⟩
  · simp only [List.cons.injEq, Value.slice.injEq, and_true] at hcs
    obtain ⟨rfl, rfl, rfl⟩ := hcs
    exact ⟨[], rfl, by omega, .inl rfl⟩
  · simp only [List.cons.injEq, Value.slice.injEq, and_true] at hcs
    obtain ⟨rfl, rfl, rfl⟩ := hcs
    simp only [if_true] at hmm
    subst hmm
    have ce : Tryz.prog.cellsOf 128 = 2 := by kernel_rfl
    have each : ∀ i, i < len → ∃ q : K2, ∀ j u, (kyE q)[j]? = some u → W.cell? (y.add (i * 2 + j)) = some u := by
      intro i hi
      obtain ⟨cs', h1, h2⟩ := hx i (by omega)
      rw [ce] at h1
      obtain ⟨_, hlen, hcell⟩ := World.cells?_some h1
      obtain ⟨xs, k, hk, hxy, _, hxl, hf⟩ := DataW.trod_struct Tryz.underlying128 h2
      have hx2 : xs.length = 2 := hxl
      clear hxl
      obtain ⟨y0, y1, rfl⟩ := two2 xs hx2
      obtain ⟨v0, v1, rfl⟩ := two2 cs' hlen
      have g0 := hf 0 _ rfl
      have g1 := hf 1 _ rfl
      have c2 : Tryz.prog.cellsOf 2 = 1 := by kernel_rfl
      simp [c2] at g0 g1
      obtain ⟨t0, e0, _, _⟩ := DataW.trod_int Tryz.underlying2 g0
      obtain ⟨t1, e1, _, _⟩ := DataW.trod_int Tryz.underlying2 g1
      simp only [List.cons.injEq, and_true] at e0 e1
      subst e0 e1
      refine ⟨⟨t0, t1⟩, fun j u hu => ?_⟩
      have hj : j < 2 := by
        have := (List.getElem?_eq_some_iff.1 hu).1
        rw [kyE_len] at this
        exact this
      have k0 := hcell j (by omega)
      rw [Go.Deep.add_add] at k0
      rw [k0]
      exact hu
    obtain ⟨q, hq⟩ := Go.Deep.choose_lt each
    exact ⟨(List.range len).map q, by simp, by omega, rs_of q (fun x => ⟨_, rfl⟩) hq⟩
theorem slice_form {H : Type} {enc : TypeId × Value → H} {W : World} {base : Nat} {held : Bool} {fuel : Nat} {T E : TypeId} {v : Value} {x : DataW H × List MemPlace} (hu : Tryz.prog.underlying T = some (.slice E))
    (h : DataW.trod enc Tryz.prog W base (fun _ => true) held fuel T [v] = some x) : ∃ a l c, v = .slice a l c := by
  rcases Go.Deep.open_slice hu h with ⟨hcs, _⟩ | ⟨y, l, c, m, n, Dd, Pl, hcs, _⟩
  · simp only [List.cons.injEq, and_true] at hcs
    exact ⟨_, _, _, hcs⟩
  · simp only [List.cons.injEq, and_true] at hcs
    exact ⟨_, _, _, hcs⟩
theorem open_txs {H : Type} {enc : TypeId × Value → H} {W : World} {base : Nat} {held : Bool} {fuel : Nat} {a : Option Addr} {len cap : Nat} {x : DataW H × List MemPlace}
    (h : DataW.trod enc Tryz.prog W base (fun _ => true) held fuel 23 [.slice a len cap] = some x) : ∃ xs, IsTxs W a len xs := by
  have hml : maxLen = 9223372036854775807 := by decide
  rcases Go.Deep.open_slice Tryz.underlying23 h with ⟨hcs, _⟩ | ⟨y, l, c, m, n, Dd, Pl, hcs, hb, hl, hm, hmm, _, hx⟩
  · simp only [List.cons.injEq, Value.slice.injEq, and_true] at hcs
    obtain ⟨rfl, rfl, rfl⟩ := hcs
    exact ⟨[], .inl rfl, rfl, by omega, fun r hr => by simp at hr⟩
  · simp only [List.cons.injEq, Value.slice.injEq, and_true] at hcs
    obtain ⟨rfl, rfl, rfl⟩ := hcs
    simp only [if_true] at hmm
    subst hmm
    have ce : Tryz.prog.cellsOf 54 = 4 := by kernel_rfl
    have each : ∀ i, i < len → ∃ q : (TxV × (Option Addr × Nat) × (Option Addr × Nat) × (Option Addr × Nat)), (W.cell? (y.add (i * 4)) = some (.int .i64 q.1.id) ∧ W.cell? (y.add (i * 4 + 1)) = some (.slice q.2.1.1 q.1.u.length q.2.1.2) ∧ W.cell? (y.add (i * 4 + 2)) = some (.slice q.2.2.1.1 q.1.m.length q.2.2.1.2) ∧ W.cell? (y.add (i * 4 + 3)) = some (.slice q.2.2.2.1 q.1.l.length q.2.2.2.2)) ∧ Rs chE 10 W q.2.1.1 q.1.u ∧ Rs inE 1 W q.2.2.1.1 q.1.m ∧ Rs kyE 2 W q.2.2.2.1 q.1.l ∧ TxOk maxLen q.1 := by
      intro i hi
      obtain ⟨cs', h1, h2⟩ := hx i (by omega)
      rw [ce] at h1
      obtain ⟨_, hlen, hcell⟩ := World.cells?_some h1
      obtain ⟨xs, k, hk, hxy, _, hxl, hf⟩ := DataW.trod_struct Tryz.underlying54 h2
      have hx4 : xs.length = 4 := hxl
      clear hxl
      obtain ⟨y0, y1, y2, y3, rfl⟩ := four xs hx4
      obtain ⟨v0, v1, v2, v3, rfl⟩ := four cs' hlen
      have g0 := hf 0 _ rfl
      have g1 := hf 1 _ rfl
      have g2 := hf 2 _ rfl
      have g3 := hf 3 _ rfl
      have c2 : Tryz.prog.cellsOf 2 = 1 := by kernel_rfl
      have d1 : Tryz.prog.cellsOf 50 = 1 := by kernel_rfl
      have d2 : Tryz.prog.cellsOf 51 = 1 := by kernel_rfl
      have d3 : Tryz.prog.cellsOf 52 = 1 := by kernel_rfl
      simp [c2, d1, d2, d3] at g0 g1 g2 g3
      obtain ⟨t0, e0, _, _⟩ := DataW.trod_int Tryz.underlying2 g0
      simp only [List.cons.injEq, and_true] at e0
      subst e0
      obtain ⟨ua, un, uc, rfl⟩ := slice_form Tryz.underlying50 g1
      obtain ⟨ma, mn, mc, rfl⟩ := slice_form Tryz.underlying51 g2
      obtain ⟨la, ln, lc, rfl⟩ := slice_form Tryz.underlying52 g3
      obtain ⟨us, hu⟩ := open_chgs g1
      obtain ⟨ms, hm1, hm2, hm3⟩ := open_nums g2
      obtain ⟨ls, hl1, hl2, hl3⟩ := open_keys g3
      have hu1 := hu.eq
      subst hu1 hm1 hl1
      have k0 := hcell 0 (by omega)
      have k1 := hcell 1 (by omega)
      have k2 := hcell 2 (by omega)
      have k3 := hcell 3 (by omega)
      rw [Go.Deep.add_add] at k0 k1 k2 k3
      exact ⟨(⟨t0, us, ms, ls⟩, (ua, uc), (ma, mc), (la, lc)), ⟨k0, k1, k2, k3⟩, hu.rd, hm3, hl3, by have := hu.ln; dsimp only; omega, hu.sz, hm2, hl2⟩
    obtain ⟨q, hq⟩ := Go.Deep.choose_lt each
    refine ⟨(List.range len).map (fun i => (q i).1), ?_, by simp, by omega, ?_⟩
    · by_cases h0 : len = 0
      · subst h0; exact .inl rfl
      · obtain ⟨b, off, spot⟩ := y
        have hc0 := (hq 0 (by omega)).1.1
        have hspot : spot = none := by simpa [Addr.add] using World.cell?_spot hc0
        subst hspot
        have ea : ∀ i, (⟨b, off, none⟩ : Addr).add i = ⟨b, off + i, none⟩ := by intro i; unfold Addr.add; split <;> simp_all
        refine .inr ⟨b, off, rfl, fun i r hr => ?_⟩
        obtain ⟨hi, rfl⟩ := list_of_fun (fun i => (q i).1) len hr
        obtain ⟨⟨k0, k1, k2, k3⟩, r1, r2, r3, _⟩ := hq i hi
        rw [ea] at k0 k1 k2 k3
        rw [← Nat.add_assoc] at k1 k2 k3
        exact ⟨_, _, _, _, _, _, k0, k1, k2, k3, r1, r2, r3⟩
    · intro r hr
      obtain ⟨i, hi, rfl⟩ := List.mem_map.1 hr
      exact (hq i (by simpa using hi)).2.2.2.2

end Go.Proofs.YtpjlpnaamkbicaaGreatDoor

/-
  Ops that came in; the law FnExactOpFault answers true.
-/
namespace Go.Proofs.YtpjlpnaamkbicaaGreatDoor
open Go.ChangeShapes Go.WideShapes Go.RowKit
set_option linter.unusedVariables false
set_option maxRecDepth 20000

theorem seven {α : Type} (xs : List α) (h : xs.length = 7) : ∃ a b c d e f g, xs = [a, b, c, d, e, f, g] := by
  match xs, h with
  | [a, b, c, d, e, f, g], _ => exact ⟨a, b, c, d, e, f, g, rfl⟩
theorem open_row4o {H : Type} {enc : TypeId × Value → H} {W : World} {base : Nat} {held : Bool} {fuel : Nat} {v0 v1 v2 v3 : Value} {x : DataW H × List MemPlace}
    (h2 : DataW.trod enc Tryz.prog W base (fun _ => true) held fuel 25 [v0, v1, v2, v3] = some x) : ∃ t k v s, v0 = .int .i64 t ∧ v1 = .int .i64 k ∧ v2 = .int .i64 v ∧ v3 = .string s ∧ ByteArray.size s ≤ maxLen := by
  obtain ⟨xs, k, hk, hxy, _, hxl, hf⟩ := DataW.trod_struct Tryz.underlying25 h2
  have hx4 : xs.length = 4 := hxl
  clear hxl
  obtain ⟨y0, y1, y2, y3, rfl⟩ := four xs hx4
  have g0 := hf 0 _ rfl
  have g1 := hf 1 _ rfl
  have g2 := hf 2 _ rfl
  have g3 := hf 3 _ rfl
  have c2 : Tryz.prog.cellsOf 2 = 1 := by kernel_rfl
  have c9 : Tryz.prog.cellsOf 9 = 1 := by kernel_rfl
  simp [c2, c9] at g0 g1 g2 g3
  obtain ⟨t0, e0, _, w0⟩ := DataW.trod_int Tryz.underlying2 g0
  obtain ⟨t1, e1, _, w1⟩ := DataW.trod_int Tryz.underlying2 g1
  obtain ⟨t2, e2, _, w2⟩ := DataW.trod_int Tryz.underlying2 g2
  obtain ⟨s, e3, _, hs⟩ := DataW.trod_string Tryz.underlying9 g3
  simp only [List.cons.injEq, and_true] at e0 e1 e2 e3
  subst e0 e1 e2 e3
  exact ⟨t0, t1, t2, s, rfl, rfl, rfl, rfl, hs⟩
theorem open_op {H : Type} {enc : TypeId × Value → H} {W : World} {base bs : Nat} {held : Bool} {v : Value} {d : DataW H} {p : List MemPlace} (hv : Value.okWide Tryz.prog W .any base 27 v)
    (h : DataW.Trod enc Tryz.prog W bs (fun _ => true) held 27 v d p) : ∃ kd tx t k x s mk, v = .agg #[.int .i64 kd, .int .i64 tx, .int .i64 t, .int .i64 k, .int .i64 x, .string s, .int .i64 mk] ∧ ByteArray.size s ≤ maxLen := by
  obtain ⟨cs, rfl, hsz⟩ := okWide_struct Tryz.underlying27 hv
  have c7 : Tryz.prog.cellsOf 27 = 7 := by kernel_rfl
  rw [c7] at hsz
  obtain ⟨fuel, h2⟩ := h
  obtain ⟨l⟩ := cs
  have hl : l.length = 7 := by simpa using hsz
  obtain ⟨v0, v1, v2, v3, v4, v5, v6, rfl⟩ := seven l hl
  have h2 : DataW.trod enc Tryz.prog W bs (fun _ => true) held fuel 27 [v0, v1, v2, v3, v4, v5, v6] = some (d, p) := h2
  obtain ⟨xs, k, hk, hxy, _, hxl, hf⟩ := DataW.trod_struct Tryz.underlying27 h2
  have hx4 : xs.length = 4 := hxl
  clear hxl
  obtain ⟨y0, y1, y2, y3, rfl⟩ := four xs hx4
  have g0 := hf 0 _ rfl
  have g1 := hf 1 _ rfl
  have g2 := hf 2 _ rfl
  have g3 := hf 3 _ rfl
  have c2 : Tryz.prog.cellsOf 2 = 1 := by kernel_rfl
  have c4 : Tryz.prog.cellsOf 25 = 4 := by kernel_rfl
  simp [c2, c4] at g0 g1 g2 g3
  obtain ⟨t0, e0, _, w0⟩ := DataW.trod_int Tryz.underlying2 g0
  obtain ⟨t1, e1, _, w1⟩ := DataW.trod_int Tryz.underlying2 g1
  obtain ⟨t3, e3, _, w3⟩ := DataW.trod_int Tryz.underlying2 g3
  obtain ⟨t, k, x, s, rfl, rfl, rfl, rfl, hs⟩ := open_row4o g2
  simp only [List.cons.injEq, and_true] at e0 e1 e3
  subst e0 e1 e3
  exact ⟨t0, t1, t, k, x, s, t3, rfl, hs⟩

set_option maxHeartbeats 400000 in
theorem szOp_any (kd tx t k v : Int) (s : ByteArray) (mk : Int) (n : Int) (w : World) (hs : s.size ≤ maxLen) (hn0 : 0 ≤ n) (hn : n ≤ 1048576) :
    Calls Tryz.prog 6 #[.agg #[.int .i64 kd, .int .i64 tx, .int .i64 t, .int .i64 k, .int .i64 v, .string s, .int .i64 mk], .int .i64 n] w fun e w' => (∃ r : Int, e = .returned (.int .i64 r) ∧ r ≤ 1048576 ∧ (0 ≤ r → s.size ≤ 1048576)) ∧ Below w.heap.size w w' := by
  by_cases h1 : (s.size : Int) ≤ n
  · have d : ¬ (n - (s.size : Int) < 0) := by omega
    go_enter Tryz.func6, Tryz.ntmps6
    go_wp2_with fail
    refine (szRow_fits t k v s n _ h1 hn).mono ?_
    rintro e w1 ⟨rfl, g1⟩
    have g : Below w.heap.size w w1 := Below.trans (by go_grown) (g1.mono (by simp))
    clear g1
    go_wp2_with fail
    go_ret
    exact ⟨⟨_, rfl, by omega, fun _ => by omega⟩, g⟩
  · go_enter Tryz.func6, Tryz.ntmps6
    go_wp2_with fail
    refine (szRow_over t k v s n _ hs hn0 hn (by omega)).mono ?_
    rintro e w1 ⟨rfl, g1⟩
    have g : Below w.heap.size w w1 := Below.trans (by go_grown) (g1.mono (by simp))
    clear g1
    go_wp2_with fail
    go_ret
    exact ⟨⟨_, rfl, by omega, fun h => absurd h (by omega)⟩, g⟩

set_option maxHeartbeats 1000000 in
theorem toOp_any (kd tx t k v : Int) (s : ByteArray) (mk : Int) (w : World) :
    Calls Tryz.prog 10 #[.agg #[.int .i64 kd, .int .i64 tx, .int .i64 t, .int .i64 k, .int .i64 v, .string s, .int .i64 mk]] w fun e w' => e = .returned (.agg #[.int .i64 kd, .int .i64 tx, .int .i64 t, .int .i64 k, .int .i64 v, .string s, .int .i64 mk]) ∧ Below w.heap.size w w' := by
  go_enter Tryz.func10, Tryz.ntmps10
  go_upto_region 4 with (fail)
  generalize hY : World.alloc _ _ = Y
  have g : Below w.heap.size w Y := by rw [← hY]; go_grown
  have Z1 : OpAt Y w.heap.size kd tx t k v s mk := by rw [← hY]; exact ⟨by simp [go_sem], by simp [go_sem], by simp [go_sem], by simp [go_sem], by simp [go_sem], by simp [go_sem], by simp [go_sem]⟩
  have Z2 : OpAt Y (w.heap.size + 1) 0 0 0 0 0 ⟨#[]⟩ 0 := by rw [← hY]; exact ⟨by simp [go_sem], by simp [go_sem], by simp [go_sem], by simp [go_sem], by simp [go_sem], by simp [go_sem], by simp [go_sem]⟩
  have Z3 : OpAt Y (w.heap.size + 2) kd tx 0 0 0 ⟨#[]⟩ 0 := by rw [← hY]; exact ⟨by simp [go_sem], by simp [go_sem], by simp [go_sem], by simp [go_sem], by simp [go_sem], by simp [go_sem], by simp [go_sem]⟩
  have F2 : ∀ c, Y.frozen? ⟨w.heap.size + 1, c, none⟩ = false := by intro c; rw [← hY]; simp [go_sem]
  have F3 : ∀ c, Y.frozen? ⟨w.heap.size + 2, c, none⟩ = false := by intro c; rw [← hY]; simp [go_sem]
  clear hY
  obtain ⟨b2, hb2⟩ : ∃ b, b = w.heap.size + 1 := ⟨_, rfl⟩
  obtain ⟨b3, hb3⟩ : ∃ b, b = w.heap.size + 2 := ⟨_, rfl⟩
  rw [← hb2] at Z2 F2
  rw [← hb3] at Z3 F3
  have h2 : w.heap.size ≤ b2 := by omega
  have h3 : w.heap.size ≤ b3 := by omega
  have n13 : w.heap.size ≠ b3 := by omega
  have n31 : b3 ≠ w.heap.size := by omega
  have n23 : b2 ≠ b3 := by omega
  have n32 : b3 ≠ b2 := by omega
  try simp only [Nat.add_assoc, Nat.reduceAdd]
  rw [← hb3, ← hb2]
  clear hb2 hb3
  have l1 := Z1.lt
  have l2 := Z2.lt
  have l3 := Z3.lt
  obtain ⟨c0, c1, c2, c3, c4, c5, c6⟩ := Z1
  go_wp2_with fail
  refine (toRow_any t k v s _).mono ?_
  rintro e w' ⟨rfl, g'⟩
  have c6 := (g'.cell (p := ⟨w.heap.size, 6, none⟩) l1).trans c6
  have Z2 := Z2.below g' l2
  have Z3 := Z3.below g' l3
  have F2 : ∀ c, w'.frozen? ⟨b2, c, none⟩ = false := fun c => (g'.frozen (p := ⟨b2, c, none⟩) l2).trans (F2 c)
  have F3 : ∀ c, w'.frozen? ⟨b3, c, none⟩ = false := fun c => (g'.frozen (p := ⟨b3, c, none⟩) l3).trans (F3 c)
  have g := g.trans (g'.mono g.size)
  clear c0 c1 c2 c3 c4 c5 g' l1 l2 l3
  obtain ⟨z0, z1, z2, z3, z4, z5, z6⟩ := Z3
  go_upto_region 6 with (fail)
  generalize hY : World.setCell _ _ _ = V1
  have Z3 : OpAt V1 b3 kd tx t k v s mk := by rw [← hY]; clear hY; exact ⟨by simp [go_sem, *], by simp [go_sem, *], by simp [go_sem, *], by simp [go_sem, *], by simp [go_sem, *], by simp [go_sem, *], by simp [go_sem, *]⟩
  have T : Turned b3 (b3 + 1) w' V1 := by
    rw [← hY]
    exact ((((((Turned.refl _ _ _).setCell (p := ⟨b3, 2, none⟩) (Nat.le_refl _) (Nat.lt_succ_self _) _).setCell (p := ⟨b3, 3, none⟩) (Nat.le_refl _) (Nat.lt_succ_self _) _).setCell (p := ⟨b3, 4, none⟩) (Nat.le_refl _) (Nat.lt_succ_self _) _).setCell (p := ⟨b3, 5, none⟩) (Nat.le_refl _) (Nat.lt_succ_self _) _).setCell (p := ⟨b3, 6, none⟩) (Nat.le_refl _) (Nat.lt_succ_self _) _)
  have F2 : ∀ c, V1.frozen? ⟨b2, c, none⟩ = false := by intro c; rw [← hY]; simp [go_sem, F2]
  have hd : b2 < b3 ∨ b3 + 1 ≤ b2 := by omega
  have Z2 : OpAt V1 b2 0 0 0 0 0 ⟨#[]⟩ 0 := ⟨T.cell (p := ⟨b2, 0, none⟩) Z2.c0 hd, T.cell (p := ⟨b2, 1, none⟩) Z2.c1 hd, T.cell (p := ⟨b2, 2, none⟩) Z2.c2 hd, T.cell (p := ⟨b2, 3, none⟩) Z2.c3 hd, T.cell (p := ⟨b2, 4, none⟩) Z2.c4 hd, T.cell (p := ⟨b2, 5, none⟩) Z2.c5 hd, T.cell (p := ⟨b2, 6, none⟩) Z2.c6 hd⟩
  have g := g.trans (T.toBelow g.size h3)
  clear hY T c6 z0 z1 z2 z3 z4 z5 z6 F3 hd
  obtain ⟨z0, z1, z2, z3, z4, z5, z6⟩ := Z3
  obtain ⟨y0, y1, y2, y3, y4, y5, y6⟩ := Z2
  have f0 := F2 0
  have f1 := F2 1
  have f2 := F2 2
  have f3 := F2 3
  have f4 := F2 4
  have f5 := F2 5
  have f6 := F2 6
  go_wp2_with fail
  refine bodyPost_ret (v := .agg #[.int .i64 kd, .int .i64 tx, .int .i64 t, .int .i64 k, .int .i64 v, .string s, .int .i64 mk]) (by simp [results, Tryz.results10, go_sem, *]) rfl ?_
  exact ⟨rfl, g.trans (Turned.toBelow (lo := b2) (hi := b2 + 1) ((((((((Turned.refl _ _ V1).setCell (p := ⟨b2, 0, none⟩) (Nat.le_refl _) (Nat.lt_succ_self _) _).setCell (p := ⟨b2, 1, none⟩) (Nat.le_refl _) (Nat.lt_succ_self _) _).setCell (p := ⟨b2, 2, none⟩) (Nat.le_refl _) (Nat.lt_succ_self _) _).setCell (p := ⟨b2, 3, none⟩) (Nat.le_refl _) (Nat.lt_succ_self _) _).setCell (p := ⟨b2, 4, none⟩) (Nat.le_refl _) (Nat.lt_succ_self _) _).setCell (p := ⟨b2, 5, none⟩) (Nat.le_refl _) (Nat.lt_succ_self _) _).setCell (p := ⟨b2, 6, none⟩) (Nat.le_refl _) (Nat.lt_succ_self _) _) g.size h2)⟩

end Go.Proofs.YtpjlpnaamkbicaaGreatDoor
