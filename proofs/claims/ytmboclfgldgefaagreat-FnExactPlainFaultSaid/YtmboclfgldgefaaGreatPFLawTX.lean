/-
  Transactions that came in; the law FnExactTxsFault answers true.
-/
import Derived.Test.YtmboclfgldgefaaGreatPFTxm
import Derived.Test.YtmboclfgldgefaaGreatPFCho
import Derived.Test.YtmboclfgldgefaaGreatPFPfs
import Derived.Test.YtmboclfgldgefaaGreatPFPfi
import Derived.Test.YtmboclfgldgefaaGreatPFTpl
import Derived.OpenShut

namespace Go.Proofs.YtmboclfgldgefaaGreat
open Go.ChangeShapes Go.WideShapes Go.RowKit Go.Maps
set_option linter.unusedVariables false
set_option maxRecDepth 20000

instance : Inhabited K2 := ⟨⟨0, 0⟩⟩
instance : Inhabited TxV := ⟨⟨0, [], [], []⟩⟩
theorem rs_of {α : Type} {enc : α → List Value} {k len : Nat} {W : World} {y : Addr} (q : Nat → α) (hne : ∀ x, ∃ u, (enc x)[0]? = some u) (hq : ∀ i, i < len → ∀ j u, (enc (q i))[j]? = some u → W.cell? (y.add (i * k + j)) = some u) : Rs enc k W (some y) ((List.range len).map q) := by
  by_cases h0 : len = 0
  · subst h0; exact .inl rfl
  · obtain ⟨b, off, spot⟩ := y
    obtain ⟨u, hu⟩ := hne (q 0)
    have hc0 := hq 0 (by omega) 0 u hu
    have hspot : spot = none := by simpa [Addr.add] using World.cell?_spot hc0
    subst hspot
    have ea : ∀ i, (⟨b, off, none⟩ : Addr).add i = ⟨b, off + i, none⟩ := by intro i; unfold Addr.add; split <;> simp_all
    refine .inr ⟨b, off, rfl, fun i r hr j u hu => ?_⟩
    obtain ⟨hi, rfl⟩ := list_of_fun q len hr
    have q0 := hq i hi j u hu
    rw [ea, ← Nat.add_assoc] at q0
    exact q0
theorem open_nums {H : Type} {enc : TypeId × Value → H} {W : World} {base : Nat} {held : Bool} {fuel : Nat} {a : Option Addr} {len cap : Nat} {x : DataW H × List MemPlace}
    (h : DataW.trod enc Tryz.prog W base (fun _ => true) held fuel 65 [.slice a len cap] = some x) : ∃ ms : List Int, ms.length = len ∧ len ≤ maxLen ∧ Rs inE 1 W a ms := by
  have hml : maxLen = 9223372036854775807 := by decide
  rcases Go.Deep.open_slice Tryz.underlying65 h with ⟨hcs, _⟩ | ⟨y, l, c, m, n, Dd, Pl, hcs, hb, hl, hm, hmm, _, hx⟩
  · simp only [List.cons.injEq, Value.slice.injEq, and_true] at hcs
    obtain ⟨rfl, rfl, rfl⟩ := hcs
    exact ⟨[], rfl, by omega, .inl rfl⟩
  · simp only [List.cons.injEq, Value.slice.injEq, and_true] at hcs
    obtain ⟨rfl, rfl, rfl⟩ := hcs
    simp only [if_true] at hmm
    subst hmm
    have ce : Tryz.prog.cellsOf 2 = 1 := by kernel_rfl
    have each : ∀ i, i < len → ∃ q : Int, ∀ j u, (inE q)[j]? = some u → W.cell? (y.add (i * 1 + j)) = some u := by
      intro i hi
      obtain ⟨cs', h1, h2⟩ := hx i (by omega)
      rw [ce] at h1
      obtain ⟨_, hlen, hcell⟩ := World.cells?_some h1
      obtain ⟨p, e0, _, _⟩ := DataW.trod_int Tryz.underlying2 h2
      subst e0
      refine ⟨p, fun j u hu => ?_⟩
      have hj : j < 1 := by
        have := (List.getElem?_eq_some_iff.1 hu).1
        rw [inE_len] at this
        exact this
      have k0 := hcell j (by simpa using hj)
      rw [Go.Deep.add_add] at k0
      rw [k0]
      exact hu
    obtain ⟨q, hq⟩ := Go.Deep.choose_lt each
    exact ⟨(List.range len).map q, by simp, by omega, rs_of q (fun x => ⟨_, rfl⟩) hq⟩
theorem two2 {α : Type} (xs : List α) (h : xs.length = 2) : ∃ a b, xs = [a, b] := by
  match xs, h with
  | [a, b], _ => exact ⟨a, b, rfl⟩
theorem open_keys {H : Type} {enc : TypeId × Value → H} {W : World} {base : Nat} {held : Bool} {fuel : Nat} {a : Option Addr} {len cap : Nat} {x : DataW H × List MemPlace}
    (h : DataW.trod enc Tryz.prog W base (fun _ => true) held fuel 66 [.slice a len cap] = some x) : ∃ ls : List K2, ls.length = len ∧ len ≤ maxLen ∧ Rs kyE 2 W a ls := by
  have hml : maxLen = 9223372036854775807 := by decide
  rcases Go.Deep.open_slice Tryz.underlying66 h with ⟨hcs, _⟩ | ⟨y, l, c, m, n, Dd, Pl, hcs, hb, hl, hm, hmm, _, hx⟩
  · simp only [List.cons.injEq, Value.slice.injEq, and_true] at hcs
    obtain ⟨rfl, rfl, rfl⟩ := hcs
    exact ⟨[], rfl, by omega, .inl rfl⟩
  · simp only [List.cons.injEq, Value.slice.injEq, and_true] at hcs
    obtain ⟨rfl, rfl, rfl⟩ := hcs
    simp only [if_true] at hmm
    subst hmm
    have ce : Tryz.prog.cellsOf 142 = 2 := by kernel_rfl
    have each : ∀ i, i < len → ∃ q : K2, ∀ j u, (kyE q)[j]? = some u → W.cell? (y.add (i * 2 + j)) = some u := by
      intro i hi
      obtain ⟨cs', h1, h2⟩ := hx i (by omega)
      rw [ce] at h1
      obtain ⟨_, hlen, hcell⟩ := World.cells?_some h1
      obtain ⟨xs, k, hk, hxy, _, hxl, hf⟩ := DataW.trod_struct Tryz.underlying142 h2
      have hx2 : xs.length = 2 := hxl
      clear hxl
      obtain ⟨y0, y1, rfl⟩ := two2 xs hx2
      obtain ⟨v0, v1, rfl⟩ := two2 cs' hlen
      have g0 := hf 0 _ rfl
      have g1 := hf 1 _ rfl
      have c2 : Tryz.prog.cellsOf 2 = 1 := by kernel_rfl
      simp [c2] at g0 g1
      obtain ⟨t0, e0, _, _⟩ := DataW.trod_int Tryz.underlying2 g0
      obtain ⟨t1, e1, _, _⟩ := DataW.trod_int Tryz.underlying2 g1
      simp only [List.cons.injEq, and_true] at e0 e1
      subst e0 e1
      refine ⟨⟨t0, t1⟩, fun j u hu => ?_⟩
      have hj : j < 2 := by
        have := (List.getElem?_eq_some_iff.1 hu).1
        rw [kyE_len] at this
        exact this
      have k0 := hcell j (by omega)
      rw [Go.Deep.add_add] at k0
      rw [k0]
      exact hu
    obtain ⟨q, hq⟩ := Go.Deep.choose_lt each
    exact ⟨(List.range len).map q, by simp, by omega, rs_of q (fun x => ⟨_, rfl⟩) hq⟩
theorem slice_form {H : Type} {enc : TypeId × Value → H} {W : World} {base : Nat} {held : Bool} {fuel : Nat} {T E : TypeId} {v : Value} {x : DataW H × List MemPlace} (hu : Tryz.prog.underlying T = some (.slice E))
    (h : DataW.trod enc Tryz.prog W base (fun _ => true) held fuel T [v] = some x) : ∃ a l c, v = .slice a l c := by
  rcases Go.Deep.open_slice hu h with ⟨hcs, _⟩ | ⟨y, l, c, m, n, Dd, Pl, hcs, _⟩
  · simp only [List.cons.injEq, and_true] at hcs
    exact ⟨_, _, _, hcs⟩
  · simp only [List.cons.injEq, and_true] at hcs
    exact ⟨_, _, _, hcs⟩
theorem open_txs {H : Type} {enc : TypeId × Value → H} {W : World} {base : Nat} {held : Bool} {fuel : Nat} {a : Option Addr} {len cap : Nat} {x : DataW H × List MemPlace}
    (h : DataW.trod enc Tryz.prog W base (fun _ => true) held fuel 23 [.slice a len cap] = some x) : ∃ xs, IsTxs W a len xs := by
  have hml : maxLen = 9223372036854775807 := by decide
  rcases Go.Deep.open_slice Tryz.underlying23 h with ⟨hcs, _⟩ | ⟨y, l, c, m, n, Dd, Pl, hcs, hb, hl, hm, hmm, _, hx⟩
  · simp only [List.cons.injEq, Value.slice.injEq, and_true] at hcs
    obtain ⟨rfl, rfl, rfl⟩ := hcs
    exact ⟨[], .inl rfl, rfl, by omega, fun r hr => by simp at hr⟩
  · simp only [List.cons.injEq, Value.slice.injEq, and_true] at hcs
    obtain ⟨rfl, rfl, rfl⟩ := hcs
    simp only [if_true] at hmm
    subst hmm
    have ce : Tryz.prog.cellsOf 68 = 4 := by kernel_rfl
    have each : ∀ i, i < len → ∃ q : (TxV × (Option Addr × Nat) × (Option Addr × Nat) × (Option Addr × Nat)), (W.cell? (y.add (i * 4)) = some (.int .i64 q.1.id) ∧ W.cell? (y.add (i * 4 + 1)) = some (.slice q.2.1.1 q.1.u.length q.2.1.2) ∧ W.cell? (y.add (i * 4 + 2)) = some (.slice q.2.2.1.1 q.1.m.length q.2.2.1.2) ∧ W.cell? (y.add (i * 4 + 3)) = some (.slice q.2.2.2.1 q.1.l.length q.2.2.2.2)) ∧ Rs chE 10 W q.2.1.1 q.1.u ∧ Rs inE 1 W q.2.2.1.1 q.1.m ∧ Rs kyE 2 W q.2.2.2.1 q.1.l ∧ TxOk maxLen q.1 := by
      intro i hi
      obtain ⟨cs', h1, h2⟩ := hx i (by omega)
      rw [ce] at h1
      obtain ⟨_, hlen, hcell⟩ := World.cells?_some h1
      obtain ⟨xs, k, hk, hxy, _, hxl, hf⟩ := DataW.trod_struct Tryz.underlying68 h2
      have hx4 : xs.length = 4 := hxl
      clear hxl
      obtain ⟨y0, y1, y2, y3, rfl⟩ := four xs hx4
      obtain ⟨v0, v1, v2, v3, rfl⟩ := four cs' hlen
      have g0 := hf 0 _ rfl
      have g1 := hf 1 _ rfl
      have g2 := hf 2 _ rfl
      have g3 := hf 3 _ rfl
      have c2 : Tryz.prog.cellsOf 2 = 1 := by kernel_rfl
      have d1 : Tryz.prog.cellsOf 64 = 1 := by kernel_rfl
      have d2 : Tryz.prog.cellsOf 65 = 1 := by kernel_rfl
      have d3 : Tryz.prog.cellsOf 66 = 1 := by kernel_rfl
      simp [c2, d1, d2, d3] at g0 g1 g2 g3
      obtain ⟨t0, e0, _, _⟩ := DataW.trod_int Tryz.underlying2 g0
      simp only [List.cons.injEq, and_true] at e0
      subst e0
      obtain ⟨ua, un, uc, rfl⟩ := slice_form Tryz.underlying64 g1
      obtain ⟨ma, mn, mc, rfl⟩ := slice_form Tryz.underlying65 g2
      obtain ⟨la, ln, lc, rfl⟩ := slice_form Tryz.underlying66 g3
      obtain ⟨us, hu⟩ := open_chgs g1
      obtain ⟨ms, hm1, hm2, hm3⟩ := open_nums g2
      obtain ⟨ls, hl1, hl2, hl3⟩ := open_keys g3
      have hu1 := hu.eq
      subst hu1 hm1 hl1
      have k0 := hcell 0 (by omega)
      have k1 := hcell 1 (by omega)
      have k2 := hcell 2 (by omega)
      have k3 := hcell 3 (by omega)
      rw [Go.Deep.add_add] at k0 k1 k2 k3
      exact ⟨(⟨t0, us, ms, ls⟩, (ua, uc), (ma, mc), (la, lc)), ⟨k0, k1, k2, k3⟩, hu.rd, hm3, hl3, by have := hu.ln; dsimp only; omega, hu.sz, hm2, hl2⟩
    obtain ⟨q, hq⟩ := Go.Deep.choose_lt each
    refine ⟨(List.range len).map (fun i => (q i).1), ?_, by simp, by omega, ?_⟩
    · by_cases h0 : len = 0
      · subst h0; exact .inl rfl
      · obtain ⟨b, off, spot⟩ := y
        have hc0 := (hq 0 (by omega)).1.1
        have hspot : spot = none := by simpa [Addr.add] using World.cell?_spot hc0
        subst hspot
        have ea : ∀ i, (⟨b, off, none⟩ : Addr).add i = ⟨b, off + i, none⟩ := by intro i; unfold Addr.add; split <;> simp_all
        refine .inr ⟨b, off, rfl, fun i r hr => ?_⟩
        obtain ⟨hi, rfl⟩ := list_of_fun (fun i => (q i).1) len hr
        obtain ⟨⟨k0, k1, k2, k3⟩, r1, r2, r3, _⟩ := hq i hi
        rw [ea] at k0 k1 k2 k3
        rw [← Nat.add_assoc] at k1 k2 k3
        exact ⟨_, _, _, _, _, _, k0, k1, k2, k3, r1, r2, r3⟩
    · intro r hr
      obtain ⟨i, hi, rfl⟩ := List.mem_map.1 hr
      exact (hq i (by simpa using hi)).2.2.2.2

end Go.Proofs.YtmboclfgldgefaaGreat

/-
  The law FnExactPlainFault answers true; a plain one as it comes in.
-/
namespace Go.Proofs.YtmboclfgldgefaaGreat
open Go.ChangeShapes Go.WideShapes Go.ChangeAt Go.RowKit Go.Joins Go.Maps
set_option linter.unusedVariables false
set_option maxRecDepth 20000

set_option maxHeartbeats 8000000 in
theorem lawPlainFault_any (ra : Option Addr) (rs : List Rw) (rn rc : Nat) (a : Option Addr) (xs : List TxV) (n c : Nat) (nx : Int) (w : World) (hR : IsRows w ra rn rs) (h : IsTxs w a n xs) :
    Calls Tryz.prog 3 #[.agg #[.slice ra rn rc, .slice a n c, .int .i64 nx]] w fun e w' => e = .returned (.bool true) ∧ Below w.heap.size w w' := by
  have HN : Hid (xs.length = n) := h.eq
  have HRn : Hid (rs.length = rn) := hR.eq
  have HX : Hid (∀ V, Below w.heap.size w V → TxRd V a xs) := fun V hV => h.rd.below hV (Nat.le_refl _)
  have HRr : Hid (∀ V, Below w.heap.size w V → Rs rwE 4 V ra rs) := fun V hV => hR.rd.below hV (Nat.le_refl _)
  have HSz : Hid (∀ V, Below w.heap.size w V → Calls Tryz.prog 5 #[.agg #[.slice ra rn rc, .slice a n c, .int .i64 nx], .int .i64 1048576] V fun e w' => (∃ r : Int, e = .returned (.int .i64 r) ∧ (0 ≤ r → rn ≤ 1048576 ∧ (∀ r ∈ rs, r.s.size ≤ 1048576) ∧ n + nS xs ≤ 1048576 ∧ ∀ x ∈ xs, TxOk 1048576 x)) ∧ Below V.heap.size V w') := fun V hV => szPlain_any ra rs rn rc a xs n c nx 1048576 V ⟨h.rd.below hV (Nat.le_refl _), h.eq, h.ln, h.ok⟩ hR.eq hR.ln hR.sz (hR.rd.below hV (Nat.le_refl _)) (by omega) (by omega)
  clear h hR
  go_enter Tryz.func3, Tryz.ntmps3
  go_upto_region 1 with (fail)
  generalize hY : World.alloc _ _ = Y
  have gY : Below w.heap.size w Y := by rw [← hY]; go_grown
  have hk : P3 Y w.heap.size (.slice ra rn rc) (.slice a n c) (.int .i64 nx) := by rw [← hY]; exact ⟨by simp [go_sem], by simp [go_sem], by simp [go_sem]⟩
  clear hY
  obtain ⟨bx, hbx⟩ : ∃ bx, w.heap.size = bx := ⟨_, rfl⟩
  rw [hbx] at hk
  simp only [hbx]
  have HBX : Hid (w.heap.size = bx) := hbx
  clear hbx
  have lk := hk.lt
  have HK : Hid (∀ V, Below Y.heap.size Y V → P3 V bx (.slice ra rn rc) (.slice a n c) (.int .i64 nx)) := fun V hV => hk.below hV lk
  obtain ⟨q0, q1, q2⟩ := hk
  have hcon := HSz.out Y gY
  go_wp2_with fail
  refine hcon.mono ?_
  rintro e w2 ⟨⟨r, rfl, hl⟩, g⟩
  clear hcon q0 q1 q2 HSz
  by_cases h0 : r < 0
  · go_wp2_with fail
    go_ret
    exact ⟨rfl, gY.trans (g.mono gY.size)⟩
  obtain ⟨hrn, hrs, hnn, hs⟩ := hl (by omega)
  have hn : n ≤ 1048576 := by omega
  have HS : Hid (∀ x ∈ xs, TxOk 1048576 x) := hs
  have HRs : Hid (∀ r ∈ rs, r.s.size ≤ 1048576) := hrs
  have h0' : ¬ r < 0 := h0
  clear hl hs hrs h0 hnn
  have HTo : Hid (∀ V, Below Y.heap.size Y V → Calls Tryz.prog 7 #[.agg #[.slice ra rn rc, .slice a n c, .int .i64 nx]] V fun e w' => ToPost rs rn xs n nx V e w') := fun V hV => toPlain_any ra rs rn rc a xs n c nx V HRn.out hrn (HRr.out V (gY.trans (hV.mono gY.size))) HN.out hn HS.out (HX.out V (gY.trans (hV.mono gY.size)))
  have HSpec : Hid (∀ (W : World) (xr xa : Nat), Rs rwE 4 W (some ⟨xr, 0, none⟩) rs → TxRc W (some ⟨xa, 0, none⟩) xs → Calls Tryz.prog 6 #[.agg #[.slice (some ⟨xr, 0, none⟩) rn rn, .slice (some ⟨xa, 0, none⟩) n n, .int .i64 nx]] W fun e w' => e = .returned (.int .i64 (pnQ rs xs nx)) ∧ Below W.heap.size W w') := fun W xr xa h1 h2 => specPlainFault_any _ rs rn rn _ xs n n nx W HRn.out hrn HRs.out h1 HN.out hn HS.out h2.rd
  have HImpl : Hid (∀ (W : World) (xr xa : Nat), Rs rwE 4 W (some ⟨xr, 0, none⟩) rs → TxRc W (some ⟨xa, 0, none⟩) xs → Calls Tryz.prog 8 #[.agg #[.slice (some ⟨xr, 0, none⟩) rn rn, .slice (some ⟨xa, 0, none⟩) n n, .int .i64 nx]] W fun e w' => e = .returned (.int .i64 (pnQ rs xs nx)) ∧ Below W.heap.size W w') := fun W xr xa h1 h2 => implPlainFault_any _ rs rn rn _ xs n n nx W HRn.out hrn HRs.out h1 HN.out hn HS.out h2
  have HEq : Hid (∀ (W : World) (xr xa yr ya : Nat), Rs rwE 4 W (some ⟨xr, 0, none⟩) rs → TxRd W (some ⟨xa, 0, none⟩) xs → Rs rwE 4 W (some ⟨yr, 0, none⟩) rs → TxRd W (some ⟨ya, 0, none⟩) xs → Calls Tryz.prog 9 #[.agg #[.slice (some ⟨xr, 0, none⟩) rn rn, .slice (some ⟨xa, 0, none⟩) n n, .int .i64 nx], .agg #[.slice (some ⟨yr, 0, none⟩) rn rn, .slice (some ⟨ya, 0, none⟩) n n, .int .i64 nx]] W fun e w' => e = .returned (.bool true) ∧ Below W.heap.size W w') := fun W xr xa yr ya h1 h2 h3 h4 => eqPlain_same _ _ rs rn rn rn _ _ xs n n n nx W HRn.out (by omega) h1 h3 HN.out (by omega) HS.out h2 h4
  obtain ⟨Q, hQ⟩ : ∃ Q, pnQ rs xs nx = Q := ⟨_, rfl⟩
  rw [hQ] at HSpec HImpl
  clear hQ HX HRr
  obtain ⟨q0, q1, q2⟩ := HK.out w2 g
  have hcon := HTo.out w2 g
  go_wp2_with fail
  refine hcon.mono ?_
  rintro e w3 ⟨yr, ya, ym, rfl, g3, t1, t2, _, _⟩
  have g := g.trans (g3.mono g.size)
  have hcon := HSpec.out w3 yr ya t1.reads t2.rd
  clear g3 t1 t2 q0 q1 q2
  go_wp2_with fail
  refine hcon.mono ?_
  rintro e w4 ⟨rfl, g4⟩
  have g := g.trans (g4.mono g.size)
  clear g4 hcon HSpec
  obtain ⟨q0, q1, q2⟩ := HK.out w4 g
  have hcon := HTo.out w4 g
  go_wp2_with fail
  refine hcon.mono ?_
  rintro e w5 ⟨xr, xa, xm, rfl, g5, t1, t2, _, _⟩
  have g := g.trans (g5.mono g.size)
  clear g5 hcon q0 q1 q2
  go_upto_region 7 with (fail)
  generalize hZ : World.alloc _ _ = Z
  have gZ : Below w5.heap.size w5 Z := by rw [← hZ]; go_grown
  have CX : P3 Z w5.heap.size (.slice (some ⟨xr, 0, none⟩) rn rn) (.slice (some ⟨xa, 0, none⟩) n n) (.int .i64 nx) := by rw [← hZ]; exact ⟨by simp [go_sem], by simp [go_sem], by simp [go_sem]⟩
  have t1 := t1.reads.below gZ (Nat.le_refl _)
  have t2 := t2.rd.below gZ (Nat.le_refl _)
  have g := g.trans (gZ.mono g.size)
  clear hZ gZ
  generalize w5.heap.size = xb at CX ⊢
  have hcon := HImpl.out Z xr xa t1 t2
  have lX := CX.lt
  obtain ⟨q0, q1, q2⟩ := CX
  go_wp2_with fail
  refine hcon.mono ?_
  rintro e w6 ⟨rfl, g6⟩
  have CX : P3 w6 xb (.slice (some ⟨xr, 0, none⟩) rn rn) (.slice (some ⟨xa, 0, none⟩) n n) (.int .i64 nx) := P3.below ⟨q0, q1, q2⟩ g6 lX
  have t1 := t1.below g6 (Nat.le_refl _)
  have t2 := t2.below g6 (Nat.le_refl _)
  have g := g.trans (g6.mono g.size)
  clear g6 hcon q0 q1 q2 lX HImpl
  have HXr : Hid (∀ V, Below w6.heap.size w6 V → Rs rwE 4 V (some ⟨xr, 0, none⟩) rs ∧ TxRd V (some ⟨xa, 0, none⟩) xs) := fun V hV => ⟨t1.below hV (Nat.le_refl _), t2.rd.below hV (Nat.le_refl _)⟩
  clear t1 t2
  go_upto_region 10 with (fail)
  go_cut [26] from 22 (fun s wc => s = .bool false ∧ Below w6.heap.size w6 wc)
  case first =>
    refine wp_region_held_drew (S := fun V => (P3 V bx (.slice ra rn rc) (.slice a n c) (.int .i64 nx) ∧ P3 V xb (.slice (some ⟨xr, 0, none⟩) rn rn) (.slice (some ⟨xa, 0, none⟩) n n) (.int .i64 nx)) ∧ Below w6.heap.size w6 V) (by kernel_rfl) ⟨⟨HK.out _ (g.trans ((Below.refl _ w6).drew.mono g.size)), CX.below (Below.refl _ w6).drew CX.lt⟩, (Below.refl _ w6).drew⟩ (fun hHeld => ?_)
    generalize World.drew _ = D0 at hHeld ⊢
    refine wpAnyH_take (i := 0) (v := ?v1) rfl (by kernel_rfl) (by kernel_rfl) (by kernel_rfl) (fun _ _ _ h => h) (Or.inl ⟨by kernel_rfl, ?h1⟩) hHeld ?_
    case h1 => intro u hSw; (obtain ⟨q0, q1, q2⟩ := hSw.1.2); clear hSw; go_simp; try with_reducible rfl
    try simp only [List.getElem_toArray]
    try simp only [List.getElem_cons_succ]
    try simp only [List.getElem_cons_zero]
    try simp only [Act.put]
    try simp only [List.setIfInBounds_toArray]
    try simp only [List.set]
    refine wpAnyH_take (i := 1) (v := ?v2) rfl (by kernel_rfl) (by kernel_rfl) (by kernel_rfl) (fun _ _ _ h => h) (Or.inl ⟨by kernel_rfl, ?h2⟩) hHeld ?_
    case h2 => intro u hSw; (obtain ⟨q0, q1, q2⟩ := hSw.1.1); clear hSw; go_simp; try with_reducible rfl
    try simp only [List.getElem_toArray]
    try simp only [List.getElem_cons_succ]
    try simp only [List.getElem_cons_zero]
    try simp only [Act.put]
    try simp only [List.setIfInBounds_toArray]
    try simp only [List.set]
    refine wpAnyH_ready (rs := [2]) (by kernel_rfl) (by simp) ?_
    refine AllReadyH.cons rfl (fun K hK => ?_) AllReadyH.nil
    go_simp
    go_wp2_with (go_at_call 7; refine (HTo.out _ (g.trans (hHeld.2.mono g.size))).mono ?_; rintro e W1 ⟨yr, ya, ym, rfl, gg, t1, t2, t3, t4⟩)
    refine hK.out _ _ (⟨⟨hHeld.1.1.below gg hHeld.1.1.lt, hHeld.1.2.below gg hHeld.1.2.lt⟩, hHeld.2.trans (gg.mono hHeld.2.size)⟩) (fun hHeld => ?_)
    clear hK K
    try simp only [Act.put]
    try simp only [List.setIfInBounds_toArray]
    try simp only [List.set]
    have hcon := HEq.out W1 xr xa yr ya (HXr.out _ (hHeld.2)).1 (HXr.out _ (hHeld.2)).2 t1.reads t2.rd.rd
    clear t1 t2 t3 t4 gg
    refine wpAnyH_ready (rs := [3]) (by kernel_rfl) (by simp) ?_
    refine AllReadyH.cons rfl (fun K hK => ?_) AllReadyH.nil
    go_simp
    go_wp2_with (go_at_call 9; refine hcon.mono ?_; rintro e W2 ⟨rfl, gg⟩)
    refine hK.out _ _ (⟨⟨hHeld.1.1.below gg hHeld.1.1.lt, hHeld.1.2.below gg hHeld.1.2.lt⟩, hHeld.2.trans (gg.mono hHeld.2.size)⟩) (fun hHeld => ?_)
    clear hK K
    try simp only [Act.put]
    try simp only [List.setIfInBounds_toArray]
    try simp only [List.set]
    clear hcon gg
    refine wpAnyH_take (i := 4) (v := ?v3) rfl (by kernel_rfl) (by kernel_rfl) (by kernel_rfl) (fun _ _ _ h => h) (Or.inl ⟨by kernel_rfl, ?h3⟩) hHeld ?_
    case h3 => intro u hSw; clear hSw; go_simp; try with_reducible rfl
    try simp only [List.getElem_toArray]
    try simp only [List.getElem_cons_succ]
    try simp only [List.getElem_cons_zero]
    try simp only [Act.put]
    try simp only [List.setIfInBounds_toArray]
    try simp only [List.set]
    refine wpAnyH_done (by kernel_rfl) ?_ _
    go_wp2_with fail
    go_meet
    case rel => exact ⟨rfl, hHeld.2⟩
  case rest =>
    obtain ⟨rfl, g7⟩ := hcut
    have g := g.trans (g7.mono g.size)
    clear g7 HTo HEq HXr CX
    go_wp2_with fail
    go_ret
    exact ⟨rfl, gY.trans (g.mono gY.size)⟩

set_option maxRecDepth 100000 in
theorem open_slice_form {H : Type} {enc : TypeId × Value → H} {W : World} {base : Nat} {held : Bool} {fuel : Nat} {T E : TypeId} {v : Value} {x : DataW H × List MemPlace} (hu : Tryz.prog.underlying T = some (.slice E))
    (h : DataW.trod enc Tryz.prog W base (fun _ => true) held fuel T [v] = some x) : ∃ a l c, v = .slice a l c := by
  rcases Go.Deep.open_slice hu h with ⟨hcs, _⟩ | ⟨y, l, c, m, n, Dd, Pl, hcs, _⟩
  · simp only [List.cons.injEq, and_true] at hcs
    exact ⟨_, _, _, hcs⟩
  · simp only [List.cons.injEq, and_true] at hcs
    exact ⟨_, _, _, hcs⟩
theorem three3 {α : Type} (xs : List α) (h : xs.length = 3) : ∃ a b c, xs = [a, b, c] := by
  match xs, h with
  | [a, b, c], _ => exact ⟨a, b, c, rfl⟩
set_option maxRecDepth 100000 in
theorem open_plain {H : Type} {enc : TypeId × Value → H} {W : World} {base bs : Nat} {held : Bool} {v : Value} {d : DataW H} {p : List MemPlace} (hv : Value.okWide Tryz.prog W .any base 25 v)
    (h : DataW.Trod enc Tryz.prog W bs (fun _ => true) held 25 v d p) : ∃ (ra : Option Addr) (rn rc : Nat) (a : Option Addr) (n c : Nat) (nx : Int) (rs : List Rw) (xs : List TxV), v = .agg #[.slice ra rn rc, .slice a n c, .int .i64 nx] ∧ IsRows W ra rn rs ∧ IsTxs W a n xs := by
  obtain ⟨cs, rfl, hsz⟩ := okWide_struct Tryz.underlying25 hv
  have c3 : Tryz.prog.cellsOf 25 = 3 := by kernel_rfl
  rw [c3] at hsz
  obtain ⟨fuel, h2⟩ := h
  obtain ⟨l⟩ := cs
  have hl : l.length = 3 := by simpa using hsz
  obtain ⟨v0, v1, v2, rfl⟩ := three3 l hl
  have h2 : DataW.trod enc Tryz.prog W bs (fun _ => true) held fuel 25 [v0, v1, v2] = some (d, p) := h2
  obtain ⟨ys, k, hk, hxy, _, hxl, hf⟩ := DataW.trod_struct Tryz.underlying25 h2
  have hx3 : ys.length = 3 := hxl
  clear hxl
  obtain ⟨y0, y1, y2, rfl⟩ := three3 ys hx3
  have g0 := hf 0 _ rfl
  have g1 := hf 1 _ rfl
  have g2 := hf 2 _ rfl
  have d0 : Tryz.prog.cellsOf 22 = 1 := by kernel_rfl
  have d1 : Tryz.prog.cellsOf 23 = 1 := by kernel_rfl
  have d2 : Tryz.prog.cellsOf 2 = 1 := by kernel_rfl
  simp [d0, d1, d2] at g0 g1 g2
  obtain ⟨ra, rn, rc, e0⟩ := open_slice_form Tryz.underlying22 g0
  obtain ⟨a, n, c, e1⟩ := open_slice_form Tryz.underlying23 g1
  obtain ⟨nx, e2, _⟩ := DataW.trod_int Tryz.underlying2 g2
  simp only [List.cons.injEq, and_true] at e2
  subst e0 e1 e2
  obtain ⟨rs, hrs⟩ := open_rows g0
  obtain ⟨xs, hxs⟩ := open_txs g1
  exact ⟨ra, rn, rc, a, n, c, nx, rs, xs, rfl, hrs, hxs⟩

end Go.Proofs.YtmboclfgldgefaaGreat
