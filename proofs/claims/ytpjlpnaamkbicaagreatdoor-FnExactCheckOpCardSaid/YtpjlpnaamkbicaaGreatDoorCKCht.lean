/-
  Changes made one's own: toChangeS.
-/
import Derived.Test.YtpjlpnaamkbicaaGreatDoorCKChr
import Derived.Test.YtpjlpnaamkbicaaGreatDoorCKRdw

namespace Go.Proofs.YtpjlpnaamkbicaaGreatDoor
open Go.RowKit Go.Maps
set_option linter.unusedVariables false

/-- Ten cells written. -/
def put10 (w : World) (b o : Nat) (x : Chg) : World := (((((((((w.setCell ⟨b, o, none⟩ (.bool x.was)).setCell ⟨b, o + 1, none⟩ (.int .i64 x.b.t)).setCell ⟨b, o + 2, none⟩ (.int .i64 x.b.k)).setCell ⟨b, o + 3, none⟩ (.int .i64 x.b.v)).setCell ⟨b, o + 4, none⟩ (.string x.b.s)).setCell ⟨b, o + 5, none⟩ (.bool x.is)).setCell ⟨b, o + 6, none⟩ (.int .i64 x.a.t)).setCell ⟨b, o + 7, none⟩ (.int .i64 x.a.k)).setCell ⟨b, o + 8, none⟩ (.int .i64 x.a.v)).setCell ⟨b, o + 9, none⟩ (.string x.a.s)
theorem put10_same {w : World} {b o : Nat} {x : Chg} (h : ∀ i, i < 10 → ∃ v, w.cell? ⟨b, o + i, none⟩ = some v) : ChC (put10 w b o x) b o x := by
  obtain ⟨v0, h0⟩ := h 0 (by omega)
  obtain ⟨v1, h1⟩ := h 1 (by omega)
  obtain ⟨v2, h2⟩ := h 2 (by omega)
  obtain ⟨v3, h3⟩ := h 3 (by omega)
  obtain ⟨v4, h4⟩ := h 4 (by omega)
  obtain ⟨v5, h5⟩ := h 5 (by omega)
  obtain ⟨v6, h6⟩ := h 6 (by omega)
  obtain ⟨v7, h7⟩ := h 7 (by omega)
  obtain ⟨v8, h8⟩ := h 8 (by omega)
  obtain ⟨v9, h9⟩ := h 9 (by omega)
  rw [Nat.add_zero] at h0
  unfold put10
  refine ⟨?_, ?_, ?_, ?_, ?_, ?_, ?_, ?_, ?_, ?_⟩
  · rw [cell_off (by omega), cell_off (by omega), cell_off (by omega), cell_off (by omega), cell_off (by omega), cell_off (by omega), cell_off (by omega), cell_off (by omega), cell_off (by omega)]
    exact World.cell?_setCell_same _ _ _ h0
  · rw [cell_off (by omega), cell_off (by omega), cell_off (by omega), cell_off (by omega), cell_off (by omega), cell_off (by omega), cell_off (by omega), cell_off (by omega)]
    exact World.cell?_setCell_same _ _ _ (by rw [cell_off (by omega)]; exact h1)
  · rw [cell_off (by omega), cell_off (by omega), cell_off (by omega), cell_off (by omega), cell_off (by omega), cell_off (by omega), cell_off (by omega)]
    exact World.cell?_setCell_same _ _ _ (by rw [cell_off (by omega), cell_off (by omega)]; exact h2)
  · rw [cell_off (by omega), cell_off (by omega), cell_off (by omega), cell_off (by omega), cell_off (by omega), cell_off (by omega)]
    exact World.cell?_setCell_same _ _ _ (by rw [cell_off (by omega), cell_off (by omega), cell_off (by omega)]; exact h3)
  · rw [cell_off (by omega), cell_off (by omega), cell_off (by omega), cell_off (by omega), cell_off (by omega)]
    exact World.cell?_setCell_same _ _ _ (by rw [cell_off (by omega), cell_off (by omega), cell_off (by omega), cell_off (by omega)]; exact h4)
  · rw [cell_off (by omega), cell_off (by omega), cell_off (by omega), cell_off (by omega)]
    exact World.cell?_setCell_same _ _ _ (by rw [cell_off (by omega), cell_off (by omega), cell_off (by omega), cell_off (by omega), cell_off (by omega)]; exact h5)
  · rw [cell_off (by omega), cell_off (by omega), cell_off (by omega)]
    exact World.cell?_setCell_same _ _ _ (by rw [cell_off (by omega), cell_off (by omega), cell_off (by omega), cell_off (by omega), cell_off (by omega), cell_off (by omega)]; exact h6)
  · rw [cell_off (by omega), cell_off (by omega)]
    exact World.cell?_setCell_same _ _ _ (by rw [cell_off (by omega), cell_off (by omega), cell_off (by omega), cell_off (by omega), cell_off (by omega), cell_off (by omega), cell_off (by omega)]; exact h7)
  · rw [cell_off (by omega)]
    exact World.cell?_setCell_same _ _ _ (by rw [cell_off (by omega), cell_off (by omega), cell_off (by omega), cell_off (by omega), cell_off (by omega), cell_off (by omega), cell_off (by omega), cell_off (by omega)]; exact h8)
  · exact World.cell?_setCell_same _ _ _ (by rw [cell_off (by omega), cell_off (by omega), cell_off (by omega), cell_off (by omega), cell_off (by omega), cell_off (by omega), cell_off (by omega), cell_off (by omega), cell_off (by omega)]; exact h9)
theorem put10_other {w : World} {b o p : Nat} {x : Chg} (h : p < o ∨ o + 10 ≤ p) : (put10 w b o x).cell? ⟨b, p, none⟩ = w.cell? ⟨b, p, none⟩ := by
  unfold put10
  rw [cell_off (by omega), cell_off (by omega), cell_off (by omega), cell_off (by omega), cell_off (by omega), cell_off (by omega), cell_off (by omega), cell_off (by omega), cell_off (by omega), cell_off (by omega)]
theorem put10_frozen {w : World} {b o : Nat} {x : Chg} (p : Addr) : (put10 w b o x).frozen? p = w.frozen? p := by
  unfold put10
  rw [World.frozen?_setCell, World.frozen?_setCell, World.frozen?_setCell, World.frozen?_setCell, World.frozen?_setCell, World.frozen?_setCell, World.frozen?_setCell, World.frozen?_setCell, World.frozen?_setCell, World.frozen?_setCell]
theorem ChC.cells {w : World} {b o : Nat} {x : Chg} (h : ChC w b o x) : ∀ j u, (chE x)[j]? = some u → w.cell? ⟨b, o + j, none⟩ = some u := by
  intro j u hu
  match j, hu with
  | 0, hu => simp [chE] at hu; subst hu; exact h.c0
  | 1, hu => simp [chE] at hu; subst hu; exact h.c1
  | 2, hu => simp [chE] at hu; subst hu; exact h.c2
  | 3, hu => simp [chE] at hu; subst hu; exact h.c3
  | 4, hu => simp [chE] at hu; subst hu; exact h.c4
  | 5, hu => simp [chE] at hu; subst hu; exact h.c5
  | 6, hu => simp [chE] at hu; subst hu; exact h.c6
  | 7, hu => simp [chE] at hu; subst hu; exact h.c7
  | 8, hu => simp [chE] at hu; subst hu; exact h.c8
  | 9, hu => simp [chE] at hu; subst hu; exact h.c9
  | j + 10, hu => simp [chE] at hu

/-- Block g holds n changes, of which the first k are there. -/
structure PartC (w : World) (g n k : Nat) (cs : List Chg) : Prop where
  c : ∀ i r, i < k → cs[i]? = some r → ChC w g (i * 10) r
  e : ∀ o, o < n * 10 → ∃ v, w.cell? ⟨g, o, none⟩ = some v
  f : ∀ o, w.frozen? ⟨g, o, none⟩ = false
theorem PartC.below {w w' : World} {g n k : Nat} {cs : List Chg} (h : PartC w g n k cs) (hb : Below w.heap.size w w') (hg : g < w.heap.size) : PartC w' g n k cs :=
  ⟨fun i r hi hr => (h.c i r hi hr).below hb hg, fun o ho => by obtain ⟨v, hv⟩ := h.e o ho; exact ⟨v, (hb.cell (p := ⟨g, _, none⟩) hg).trans hv⟩, fun o => (hb.frozen (p := ⟨g, _, none⟩) hg).trans (h.f o)⟩
theorem PartC.step {w : World} {g n k : Nat} {cs : List Chg} {r : Chg} (h : PartC w g n k cs) (hk : k < n) (hr : cs[k]? = some r) : PartC (put10 w g (k * 10) r) g n (k + 1) cs := by
  have hs : ChC (put10 w g (k * 10) r) g (k * 10) r := put10_same fun i hi => h.e (k * 10 + i) (by omega)
  refine ⟨fun i r' hi hr' => ?_, fun o ho => ?_, fun o => by rw [put10_frozen]; exact h.f o⟩
  · by_cases e : i = k
    · subst e
      rw [hr] at hr'
      cases hr'
      exact hs
    · obtain ⟨c0, c1, c2, c3, c4, c5, c6, c7, c8, c9⟩ := h.c i r' (by omega) hr'
      exact ⟨by rw [put10_other (by omega)]; exact c0, by rw [put10_other (by omega)]; exact c1, by rw [put10_other (by omega)]; exact c2, by rw [put10_other (by omega)]; exact c3, by rw [put10_other (by omega)]; exact c4, by rw [put10_other (by omega)]; exact c5, by rw [put10_other (by omega)]; exact c6, by rw [put10_other (by omega)]; exact c7, by rw [put10_other (by omega)]; exact c8, by rw [put10_other (by omega)]; exact c9⟩
  · by_cases e : k * 10 ≤ o ∧ o < k * 10 + 10
    · have : o = k * 10 ∨ o = k * 10 + 1 ∨ o = k * 10 + 2 ∨ o = k * 10 + 3 ∨ o = k * 10 + 4 ∨ o = k * 10 + 5 ∨ o = k * 10 + 6 ∨ o = k * 10 + 7 ∨ o = k * 10 + 8 ∨ o = k * 10 + 9 := by omega
      rcases this with rfl | rfl | rfl | rfl | rfl | rfl | rfl | rfl | rfl | rfl
      · exact ⟨_, hs.c0⟩
      · exact ⟨_, hs.c1⟩
      · exact ⟨_, hs.c2⟩
      · exact ⟨_, hs.c3⟩
      · exact ⟨_, hs.c4⟩
      · exact ⟨_, hs.c5⟩
      · exact ⟨_, hs.c6⟩
      · exact ⟨_, hs.c7⟩
      · exact ⟨_, hs.c8⟩
      · exact ⟨_, hs.c9⟩
    · rw [put10_other (by omega)]; exact h.e o ho
theorem PartC.own {w : World} {g n : Nat} {cs : List Chg} (h : PartC w g n n cs) (hn : cs.length = n) {lo hi : Nat} (hl : lo ≤ g) (hh : g < hi) : SlIn chE 10 lo hi w (some ⟨g, 0, none⟩) cs := by
  refine .inr ⟨g, 0, rfl, hl, hh, fun i r hr j u hu => ?_⟩
  have hi : i < n := by rw [← hn]; exact (List.getElem?_eq_some_iff.1 hr).1
  rw [Nat.zero_add]
  exact ⟨(h.c i r hi hr).cells j u hu, h.f _⟩

set_option maxRecDepth 20000 in
set_option maxHeartbeats 4000000 in
theorem toChangeS_any (a : Option Addr) (cs : List Chg) (n c : Nat) (w : World) (hn : cs.length = n) (hm : n ≤ 1048576) (hr : Rs chE 10 w a cs) :
    Calls Tryz.prog 49 #[.slice a n c] w fun e w' => e = .returned (.slice (some ⟨w.heap.size, 0, none⟩) n n) ∧ Below w.heap.size w w' ∧ SlIn chE 10 w.heap.size w'.heap.size w' (some ⟨w.heap.size, 0, none⟩) cs := by
  obtain ⟨i0, hi, hz0, hz1, hz2⟩ := infoC
  have HN : Hid (cs.length = n) := hn
  have HR : Hid (Rs chE 10 w a cs) := hr
  clear hn hr
  go_enter Tryz.func49, Tryz.ntmps49
  go_wp2_with (at_make; refine wpList_make_full _ rfl _ _ 62 rfl w.heap.size 33 i0 (.agg #[.bool false, .int .i64 0, .int .i64 0, .int .i64 0, .string ⟨#[]⟩, .bool false, .int .i64 0, .int .i64 0, .int .i64 0, .string ⟨#[]⟩]) 10 Tryz.underlying62 hi hz0 hz1 .i64 .i64 _ _ n rfl rfl rfl rfl ?c1 ?c2 (Nat.le_refl _) ?_)
  case c1 => rw [hz2]; omega
  case c2 => unfold maxLen; omega
  intro w1 hown hg
  have hB : Below w.heap.size w w1 := Below.grown (Below.refl _ _) hg (Nat.le_refl _) (fun k hk => by cases hk)
  have hlt1 : w.heap.size < w1.heap.size := (hown.lt w.heap.size (by simp [Value.ownBlock])).2
  have hP : PartC w1 w.heap.size n 0 cs := ⟨fun i r hi => absurd hi (Nat.not_lt_zero _), fun o ho => ⟨_, by rw [hown.cellAt o (by omega)]; exact List.getElem?_eq_getElem (by simpa [madeCells] using ho)⟩, fun o => hown.frozenAt _⟩
  clear hown hg hi hz0 hz1 hz2
  by_cases h0 : n = 0
  · subst h0
    go_wp2_with fail
    go_rounds 1
    go_ret
    exact ⟨rfl, hB, hP.own HN.out (Nat.le_refl _) hlt1⟩
  obtain ⟨b, off, ha⟩ : ∃ b off, a = some ⟨b, off, none⟩ := by
    obtain ⟨r, hr⟩ := at_ltC (cs := cs) (i := 0) (by rw [HN.out]; omega)
    obtain ⟨b, off, ha, _⟩ := HR.out.chg hr
    exact ⟨b, off, ha⟩
  subst ha
  go_wp2_with fail
  go_loopw [4] (fun i wr => ∃ k : Nat, k ≤ n ∧ i = .int .i64 k ∧ Below w.heap.size w wr ∧ PartC wr w.heap.size n k cs ∧ w.heap.size < wr.heap.size) (fun i _ => n - (intOf i).toNat)
  case atStart => exact ⟨0, Nat.zero_le _, rfl, hB, hP, hlt1⟩
  case round =>
    obtain ⟨k, hk, rfl, g, hP, hlt⟩ := hrel
    clear hB hlt1
    by_cases hlt2 : k < n
    · obtain ⟨x, hx⟩ := at_ltC (cs := cs) (i := k) (by rw [HN.out]; exact hlt2)
      have Z := (HR.out.below g (Nat.le_refl _)).chgAt hx
      have HK : Hid (cs[k]? = some x) := hx
      clear hx
      have hkn : (k : Int) < (n : Int) := by omega
      obtain ⟨x0, ⟨bt, bk, bv, bs⟩, x5, ⟨at', ak, av, sa⟩⟩ := x
      obtain ⟨e0, e1, e2, e3, e4, e5, e6, e7, e8, e9⟩ := Z
      dsimp only at e0 e1 e2 e3 e4 e5 e6 e7 e8 e9
      go_wp2_with fail
      refine (toChange_any x0 bt bk bv bs x5 at' ak av sa _).mono ?_
      rintro e w' ⟨rfl, g'⟩
      have hP := hP.below g' hlt
      have g2 : Below w.heap.size w w' := g.trans (g'.mono g.size)
      have hlt' : w.heap.size < w'.heap.size := by have := g'.size; omega
      have hP' := hP.step hlt2 HK.out
      obtain ⟨v0, r0⟩ := hP.e (k * 10) (by omega)
      obtain ⟨v1, r1⟩ := hP.e (k * 10 + 1) (by omega)
      obtain ⟨v2, r2⟩ := hP.e (k * 10 + 2) (by omega)
      obtain ⟨v3, r3⟩ := hP.e (k * 10 + 3) (by omega)
      obtain ⟨v4, r4⟩ := hP.e (k * 10 + 4) (by omega)
      obtain ⟨v5, r5⟩ := hP.e (k * 10 + 5) (by omega)
      obtain ⟨v6, r6⟩ := hP.e (k * 10 + 6) (by omega)
      obtain ⟨v7, r7⟩ := hP.e (k * 10 + 7) (by omega)
      obtain ⟨v8, r8⟩ := hP.e (k * 10 + 8) (by omega)
      obtain ⟨v9, r9⟩ := hP.e (k * 10 + 9) (by omega)
      have f0 := hP.f (k * 10)
      have f1 := hP.f (k * 10 + 1)
      have f2 := hP.f (k * 10 + 2)
      have f3 := hP.f (k * 10 + 3)
      have f4 := hP.f (k * 10 + 4)
      have f5 := hP.f (k * 10 + 5)
      have f6 := hP.f (k * 10 + 6)
      have f7 := hP.f (k * 10 + 7)
      have f8 := hP.f (k * 10 + 8)
      have f9 := hP.f (k * 10 + 9)
      clear g g' hP e0 e1 e2 e3 e4 e5 e6 e7 e8 e9 HK
      go_wp2_with fail
      go_roundw
      case rel => exact ⟨k + 1, by omega, by go_num, by go_grown, hP', by simp; omega⟩
      case measure => simp [intOf]; omega
    · have e : k = n := by omega
      subst e
      go_wp2_with fail
      go_ret
      exact ⟨rfl, g, hP.own HN.out (Nat.le_refl _) hlt⟩

end Go.Proofs.YtpjlpnaamkbicaaGreatDoor

/-
  What came in, opened: a slice of changes.
-/
namespace Go.Proofs.YtpjlpnaamkbicaaGreatDoor
open Go.ChangeShapes Go.WideShapes Go.RowKit
set_option linter.unusedVariables false

structure IsChgs (w : World) (a : Option Addr) (len : Nat) (cs : List Chg) : Prop where
  rd : Rs chE 10 w a cs
  eq : cs.length = len
  ln : len ≤ 9223372036854775807
  sz : ∀ x ∈ cs, x.b.s.size ≤ maxLen ∧ x.a.s.size ≤ maxLen

instance : Inhabited Chg := ⟨⟨false, default, false, default⟩⟩
theorem ten {α : Type} (xs : List α) (h : xs.length = 10) : ∃ a b c d e f g h' i j, xs = [a, b, c, d, e, f, g, h', i, j] := by
  match xs, h with
  | [a, b, c, d, e, f, g, h', i, j], _ => exact ⟨a, b, c, d, e, f, g, h', i, j, rfl⟩
theorem open_row4 {H : Type} {enc : TypeId × Value → H} {W : World} {base : Nat} {held : Bool} {fuel : Nat} {v0 v1 v2 v3 : Value} {x : DataW H × List MemPlace}
    (h2 : DataW.trod enc Tryz.prog W base (fun _ => true) held fuel 25 [v0, v1, v2, v3] = some x) : ∃ q : Rw, v0 = .int .i64 q.t ∧ v1 = .int .i64 q.k ∧ v2 = .int .i64 q.v ∧ v3 = .string q.s ∧ q.s.size ≤ maxLen := by
  obtain ⟨xs, k, hk, hxy, _, hxl, hf⟩ := DataW.trod_struct Tryz.underlying25 h2
  have hx4 : xs.length = 4 := hxl
  clear hxl
  obtain ⟨y0, y1, y2, y3, rfl⟩ := four xs hx4
  have g0 := hf 0 _ rfl
  have g1 := hf 1 _ rfl
  have g2 := hf 2 _ rfl
  have g3 := hf 3 _ rfl
  have c2 : Tryz.prog.cellsOf 2 = 1 := by kernel_rfl
  have c9 : Tryz.prog.cellsOf 9 = 1 := by kernel_rfl
  simp [c2, c9] at g0 g1 g2 g3
  obtain ⟨t0, e0, _, w0⟩ := DataW.trod_int Tryz.underlying2 g0
  obtain ⟨t1, e1, _, w1⟩ := DataW.trod_int Tryz.underlying2 g1
  obtain ⟨t2, e2, _, w2⟩ := DataW.trod_int Tryz.underlying2 g2
  obtain ⟨s, e3, _, hs⟩ := DataW.trod_string Tryz.underlying9 g3
  simp only [List.cons.injEq, and_true] at e0 e1 e2 e3
  subst e0 e1 e2 e3
  exact ⟨⟨t0, t1, t2, s⟩, rfl, rfl, rfl, rfl, hs⟩

theorem open_chgs {H : Type} {enc : TypeId × Value → H} {W : World} {base : Nat} {held : Bool} {fuel : Nat} {a : Option Addr} {len cap : Nat} {x : DataW H × List MemPlace}
    (h : DataW.trod enc Tryz.prog W base (fun _ => true) held fuel 50 [.slice a len cap] = some x) : ∃ cs, IsChgs W a len cs := by
  have hml : maxLen = 9223372036854775807 := by decide
  rcases Go.Deep.open_slice Tryz.underlying50 h with ⟨hcs, _⟩ | ⟨y, l, c, m, n, Dd, Pl, hcs, hb, hl, hm, hmm, _, hx⟩
  · simp only [List.cons.injEq, Value.slice.injEq, and_true] at hcs
    obtain ⟨rfl, rfl, rfl⟩ := hcs
    exact ⟨[], .inl rfl, rfl, by omega, fun r hr => by simp at hr⟩
  · simp only [List.cons.injEq, Value.slice.injEq, and_true] at hcs
    obtain ⟨rfl, rfl, rfl⟩ := hcs
    simp only [if_true] at hmm
    subst hmm
    have ce : Tryz.prog.cellsOf 113 = 10 := by kernel_rfl
    have each : ∀ i, i < len → ∃ q : Chg, (∀ j u, (chE q)[j]? = some u → W.cell? (y.add (i * 10 + j)) = some u) ∧ q.b.s.size ≤ maxLen ∧ q.a.s.size ≤ maxLen := by
      intro i hi
      obtain ⟨cs', h1, h2⟩ := hx i (by omega)
      rw [ce] at h1
      obtain ⟨_, hlen, hcell⟩ := World.cells?_some h1
      obtain ⟨xs, k, hk, hxy, _, hxl, hf⟩ := DataW.trod_struct Tryz.underlying113 h2
      have hx4 : xs.length = 4 := hxl
      clear hxl
      obtain ⟨y0, y1, y2, y3, rfl⟩ := four xs hx4
      obtain ⟨v0, v1, v2, v3, v4, v5, v6, v7, v8, v9, rfl⟩ := ten cs' hlen
      have g0 := hf 0 _ rfl
      have g1 := hf 1 _ rfl
      have g2 := hf 2 _ rfl
      have g3 := hf 3 _ rfl
      have c4 : Tryz.prog.cellsOf 4 = 1 := by kernel_rfl
      have c85 : Tryz.prog.cellsOf 25 = 4 := by kernel_rfl
      simp [c4, c85] at g0 g1 g2 g3
      obtain ⟨t0, e0, _⟩ := DataW.trod_bool Tryz.underlying4 g0
      obtain ⟨q1, a1, a2, a3, a4, a5⟩ := open_row4 g1
      obtain ⟨t2, e2, _⟩ := DataW.trod_bool Tryz.underlying4 g2
      obtain ⟨q3, d1, d2, d3, d4, d5⟩ := open_row4 g3
      simp only [List.cons.injEq, and_true] at e0 e2
      subst e0 e2 a1 a2 a3 a4 d1 d2 d3 d4
      refine ⟨⟨t0, q1, t2, q3⟩, fun j u hu => ?_, a5, d5⟩
      have hj : j < 10 := by
        have := (List.getElem?_eq_some_iff.1 hu).1
        rw [chE_len] at this
        exact this
      have k0 := hcell j (by omega)
      rw [Go.Deep.add_add] at k0
      rw [k0]
      exact hu
    obtain ⟨q, hq⟩ := Go.Deep.choose_lt each
    refine ⟨(List.range len).map q, ?_, by simp, by omega, ?_⟩
    · by_cases h0 : len = 0
      · subst h0; exact .inl rfl
      · obtain ⟨b, off, spot⟩ := y
        have hc0 := (hq 0 (by omega)).1 0 _ rfl
        have hspot : spot = none := by simpa [Addr.add] using World.cell?_spot hc0
        subst hspot
        have ea : ∀ i, (⟨b, off, none⟩ : Addr).add i = ⟨b, off + i, none⟩ := by intro i; unfold Addr.add; split <;> simp_all
        refine .inr ⟨b, off, rfl, fun i r hr j u hu => ?_⟩
        obtain ⟨hi, rfl⟩ := list_of_fun q len hr
        have q0 := (hq i hi).1 j u hu
        rw [ea, ← Nat.add_assoc] at q0
        exact q0
    · intro r hr
      obtain ⟨i, hi, rfl⟩ := List.mem_map.1 hr
      exact (hq i (by simpa using hi)).2

end Go.Proofs.YtpjlpnaamkbicaaGreatDoor
