/-
  A plain one and its answer: compared, marked, looked at again.
-/
import Derived.Test.YtmboclfgldgefaaGreatCMMkr
import Derived.Test.YtmboclfgldgefaaGreatCMMtt
import Derived.Test.YtmboclfgldgefaaGreatCMRwt

namespace Go.Proofs.YtmboclfgldgefaaGreat
open Go.RowKit Go.Maps
set_option linter.unusedVariables false
set_option maxRecDepth 20000

/-- Three cells of a plain one; five of its answer. -/
structure P3 (w : World) (b : Nat) (x y z : Value) : Prop where
  c0 : w.cell? ⟨b, 0, none⟩ = some x
  c1 : w.cell? ⟨b, 1, none⟩ = some y
  c2 : w.cell? ⟨b, 2, none⟩ = some z
theorem P3.lt {w : World} {b : Nat} {x y z : Value} (h : P3 w b x y z) : b < w.heap.size := World.block_lt_of_cell? w _ h.c0
theorem P3.below {w w' : World} {b B : Nat} {x y z : Value} (h : P3 w b x y z) (hb : Below B w w') (hl : b < B) : P3 w' b x y z :=
  ⟨(hb.cell (p := ⟨b, 0, none⟩) hl).trans h.c0, (hb.cell (p := ⟨b, 1, none⟩) hl).trans h.c1, (hb.cell (p := ⟨b, 2, none⟩) hl).trans h.c2⟩
structure P5 (w : World) (b : Nat) (p q : Int) (x y z : Value) : Prop where
  c0 : w.cell? ⟨b, 0, none⟩ = some (.int .i64 p)
  c1 : w.cell? ⟨b, 1, none⟩ = some (.int .i64 q)
  c2 : w.cell? ⟨b, 2, none⟩ = some x
  c3 : w.cell? ⟨b, 3, none⟩ = some y
  c4 : w.cell? ⟨b, 4, none⟩ = some z
theorem P5.lt {w : World} {b : Nat} {p q : Int} {x y z : Value} (h : P5 w b p q x y z) : b < w.heap.size := World.block_lt_of_cell? w _ h.c0
theorem P5.below {w w' : World} {b B : Nat} {p q : Int} {x y z : Value} (h : P5 w b p q x y z) (hb : Below B w w') (hl : b < B) : P5 w' b p q x y z :=
  ⟨(hb.cell (p := ⟨b, 0, none⟩) hl).trans h.c0, (hb.cell (p := ⟨b, 1, none⟩) hl).trans h.c1, (hb.cell (p := ⟨b, 2, none⟩) hl).trans h.c2, (hb.cell (p := ⟨b, 3, none⟩) hl).trans h.c3, (hb.cell (p := ⟨b, 4, none⟩) hl).trans h.c4⟩

set_option maxHeartbeats 4000000 in
theorem eqPlain_same (ra ra' : Option Addr) (rs : List Rw) (rn rc rd : Nat) (a a' : Option Addr) (xs : List TxV) (n c d : Nat) (nx : Int) (w : World) (hrn : rs.length = rn) (hrm : rn ≤ 9223372036854775807) (hr : Rs rwE 4 w ra rs) (hr' : Rs rwE 4 w ra' rs) (hn : xs.length = n) (hm : n ≤ 9223372036854775807) (hs : ∀ x ∈ xs, TxOk 1048576 x) (hx : TxRd w a xs) (hx' : TxRd w a' xs) :
    Calls Tryz.prog 9 #[.agg #[.slice ra rn rc, .slice a n c, .int .i64 nx], .agg #[.slice ra' rn rd, .slice a' n d, .int .i64 nx]] w fun e w' => e = .returned (.bool true) ∧ Below w.heap.size w w' := by
  have HE1 : Hid (∀ V, Below w.heap.size w V → Calls Tryz.prog 27 #[.slice ra rn rc, .slice ra' rn rd] V fun e w' => e = .returned (.bool true) ∧ Below V.heap.size V w') := fun V hV => eqRowS_same ra ra' rs rn rc rd V hrn hrm (hr.below hV (Nat.le_refl _)) (hr'.below hV (Nat.le_refl _))
  have HE2 : Hid (∀ V, Below w.heap.size w V → Calls Tryz.prog 28 #[.slice a n c, .slice a' n d] V fun e w' => e = .returned (.bool true) ∧ Below V.heap.size V w') := fun V hV => eqTxS_same a a' xs n c d V hn hs hm (hx.below hV (Nat.le_refl _)) (hx'.below hV (Nat.le_refl _))
  clear hrn hr hr' hn hs hx hx'
  go_enter Tryz.func9, Tryz.ntmps9
  go_upto_region 1 with (fail)
  generalize hY : World.alloc _ _ = Y
  have g : Below w.heap.size w Y := by rw [← hY]; go_grown
  have A : P3 Y w.heap.size (.slice ra rn rc) (.slice a n c) (.int .i64 nx) := by rw [← hY]; exact ⟨by simp [go_sem], by simp [go_sem], by simp [go_sem]⟩
  have B : P3 Y (w.heap.size + 1) (.slice ra' rn rd) (.slice a' n d) (.int .i64 nx) := by rw [← hY]; exact ⟨by simp [go_sem], by simp [go_sem], by simp [go_sem]⟩
  clear hY
  obtain ⟨ab, hab⟩ : ∃ ab, w.heap.size = ab := ⟨_, rfl⟩
  obtain ⟨bb, hbb⟩ : ∃ bb, ab + 1 = bb := ⟨_, rfl⟩
  rw [hab] at A B
  rw [hbb] at B
  simp only [hab]
  try simp only [hbb]
  have HAB : Hid (w.heap.size = ab) := hab
  clear hab hbb
  have lA := A.lt
  have lB := B.lt
  have HA : Hid (∀ V, Below Y.heap.size Y V → P3 V ab (.slice ra rn rc) (.slice a n c) (.int .i64 nx)) := fun V hV => A.below hV lA
  have HB : Hid (∀ V, Below Y.heap.size Y V → P3 V bb (.slice ra' rn rd) (.slice a' n d) (.int .i64 nx)) := fun V hV => B.below hV lB
  obtain ⟨a0, a1, a2⟩ := A
  obtain ⟨b0, b1, b2⟩ := B
  go_wp2_with fail
  refine (HE1.out _ g).mono ?_
  rintro e w1 ⟨rfl, g1⟩
  obtain ⟨a0, a1, a2⟩ := HA.out w1 g1
  obtain ⟨b0, b1, b2⟩ := HB.out w1 g1
  have hcon := HE2.out w1 (g.trans (g1.mono g.size))
  go_wp2_with fail
  refine hcon.mono ?_
  rintro e w2 ⟨rfl, g2⟩
  have g2 := g1.trans (g2.mono g1.size)
  obtain ⟨a0, a1, a2⟩ := HA.out w2 g2
  obtain ⟨b0, b1, b2⟩ := HB.out w2 g2
  have g := g.trans (g2.mono g.size)
  go_wp2_with fail
  go_ret
  exact ⟨rfl, g⟩

theorem rs_nil {α : Type} {enc : α → List Value} {k : Nat} {w : World} {a : Option Addr} : Rs enc k w a [] := .inl rfl
theorem Below.ofTurned0 {w w' : World} (h : Turned 0 0 w w') : Below w.heap.size w w' := ⟨h.os, h.tape, h.output, h.size, fun k hk => h.block k hk (by omega)⟩
set_option maxHeartbeats 4000000 in
theorem markPlain_nil (nx : Int) (k : Nat) (w : World) (hk0 : 1 ≤ k) (hk1 : k ≤ 1000) :
    Calls Tryz.prog 13 #[.agg #[.slice none 0 0, .slice none 0 0, .int .i64 nx], .int .i64 k] w fun e w' => e = .returned (.int .i64 k) ∧ Below w.heap.size w w' := by
  have H1 : Hid (∀ V, Calls Tryz.prog 30 #[.slice none 0 0, .int .i64 k] V fun e w' => e = .returned (.int .i64 k) ∧ Below V.heap.size V w') := fun V => (markRowS_wide none 0 0 [] 0 0 k V rfl (by omega) hk0 (by omega) (.inl rfl)).mono fun e w' h => ⟨h.1, Below.ofTurned0 h.2.1⟩
  have H2 : Hid (∀ V, Calls Tryz.prog 31 #[.slice none 0 0, .int .i64 k] V fun e w' => e = .returned (.int .i64 k) ∧ Below V.heap.size V w') := fun V => (markTxS_any none V.heap.size [] 0 0 k V rfl (by omega) (fun x hx => by simp at hx) hk0 (by have : cS [] = 0 := rfl; omega) (Nat.le_refl _) (.inl rfl)).mono fun e w' h => ⟨h.1, h.2.1⟩
  go_enter Tryz.func13, Tryz.ntmps13
  go_upto_region 1 with (fail)
  generalize hY : World.alloc _ _ = Y
  have g : Below w.heap.size w Y := by rw [← hY]; go_grown
  have A : P3 Y w.heap.size (.slice none 0 0) (.slice none 0 0) (.int .i64 nx) := by rw [← hY]; exact ⟨by simp [go_sem], by simp [go_sem], by simp [go_sem]⟩
  clear hY
  obtain ⟨ab, hab⟩ : ∃ ab, w.heap.size = ab := ⟨_, rfl⟩
  rw [hab] at A
  simp only [hab]
  have HAB : Hid (w.heap.size = ab) := hab
  clear hab
  have lA := A.lt
  have HA : Hid (∀ V, Below Y.heap.size Y V → P3 V ab (.slice none 0 0) (.slice none 0 0) (.int .i64 nx)) := fun V hV => A.below hV lA
  obtain ⟨a0, a1, a2⟩ := A
  go_wp2_with fail
  refine (H1.out _).mono ?_
  rintro e w1 ⟨rfl, g1⟩
  obtain ⟨a0, a1, a2⟩ := HA.out w1 g1
  have g := g.trans (g1.mono g.size)
  go_wp2_with fail
  refine (H2.out _).mono ?_
  rintro e w2 ⟨rfl, g2⟩
  have g := g.trans (g2.mono g.size)
  clear a0 a1 a2 g1
  go_wp2_with fail
  go_ret
  exact ⟨rfl, g⟩
end Go.Proofs.YtmboclfgldgefaaGreat

/-
  Transactions counted: what all of them take together.
-/
namespace Go.Proofs.YtmboclfgldgefaaGreat
open Go.RowKit Go.Maps
set_option linter.unusedVariables false
set_option maxRecDepth 20000

def nX (x : TxV) : Nat := x.u.length + x.m.length + x.l.length
def nS (xs : List TxV) : Nat := (xs.map nX).sum
theorem nS_step {xs : List TxV} {j : Nat} {x : TxV} (h : xs[j]? = some x) : nS (xs.take (j + 1)) = nS (xs.take j) + nX x := by
  unfold nS
  rw [take_snoc h]
  simp
/-- Ten numbers a change, two a lock, one a transaction. -/
theorem cS_nS : ∀ xs : List TxV, cS xs ≤ xs.length + 10 * nS xs
  | [] => by simp [cS, nS]
  | x :: xs => by
    have h := cS_nS xs
    have e1 : cS (x :: xs) = cX x + cS xs := by simp [cS]
    have e2 : nS (x :: xs) = nX x + nS xs := by simp [nS]
    rw [e1, e2, List.length_cons]
    unfold cX nX
    omega

set_option maxHeartbeats 400000 in
theorem szInt64S_le (a : Option Addr) (n c : Nat) (k : Int) (w : World) (hn : n ≤ 9223372036854775807) (hk0 : 0 ≤ k) (hk : k ≤ 1048576) :
    Calls Tryz.prog 62 #[.slice a n c, .int .i64 k] w fun e w' => (∃ r : Int, e = .returned (.int .i64 r) ∧ r ≤ k ∧ (0 ≤ r → r + n ≤ k)) ∧ w' = w := by
  by_cases h : k < n
  · have d : (k - (n : Int) < 0) := by omega
    go_enter Tryz.func62, Tryz.ntmps62
    go_wp2_with fail
    go_ret
    exact ⟨⟨-1, rfl, by omega, by omega⟩, rfl⟩
  · have d : ¬ (k - (n : Int) < 0) := by omega
    go_enter Tryz.func62, Tryz.ntmps62
    go_wp2_with fail
    go_ret
    exact ⟨⟨_, rfl, by omega, fun _ => by omega⟩, rfl⟩

set_option maxHeartbeats 400000 in
theorem szKeyS_le (a : Option Addr) (n c : Nat) (k : Int) (w : World) (hn : n ≤ 9223372036854775807) (hk0 : 0 ≤ k) (hk : k ≤ 1048576) :
    Calls Tryz.prog 63 #[.slice a n c, .int .i64 k] w fun e w' => (∃ r : Int, e = .returned (.int .i64 r) ∧ r ≤ k ∧ (0 ≤ r → r + n ≤ k)) ∧ w' = w := by
  by_cases h : k < n
  · have d : (k - (n : Int) < 0) := by omega
    go_enter Tryz.func63, Tryz.ntmps63
    go_wp2_with fail
    go_ret
    exact ⟨⟨-1, rfl, by omega, by omega⟩, rfl⟩
  · have d : ¬ (k - (n : Int) < 0) := by omega
    go_enter Tryz.func63, Tryz.ntmps63
    go_wp2_with fail
    go_ret
    exact ⟨⟨_, rfl, by omega, fun _ => by omega⟩, rfl⟩

set_option maxHeartbeats 1000000 in
theorem szChange_le (x0 : Bool) (bt bk bv : Int) (bs : ByteArray) (x5 : Bool) (at' ak av : Int) (sa : ByteArray) (k : Int) (w : World) (hb : bs.size ≤ maxLen) (ha : sa.size ≤ maxLen) (hk0 : 0 ≤ k) (hk : k ≤ 1048576) :
    Calls Tryz.prog 93 #[.agg #[.bool x0, .int .i64 bt, .int .i64 bk, .int .i64 bv, .string bs, .bool x5, .int .i64 at', .int .i64 ak, .int .i64 av, .string sa], .int .i64 k] w fun e w' => (∃ r : Int, e = .returned (.int .i64 r) ∧ r ≤ k ∧ (0 ≤ r → bs.size ≤ 1048576 ∧ sa.size ≤ 1048576)) ∧ Below w.heap.size w w' := by
  obtain ⟨Y, hY⟩ : ∃ Y, w.alloc (.cells #[.bool x0, .int .i64 bt, .int .i64 bk, .int .i64 bv, .string bs, .bool x5, .int .i64 at', .int .i64 ak, .int .i64 av, .string sa] 133) = Y := ⟨_, rfl⟩
  have gY : Below w.heap.size w Y := by rw [← hY]; go_grown
  have Z : ChC Y w.heap.size 0 ⟨x0, ⟨bt, bk, bv, bs⟩, x5, ⟨at', ak, av, sa⟩⟩ := by rw [← hY]; exact ⟨by simp [go_sem], by simp [go_sem], by simp [go_sem], by simp [go_sem], by simp [go_sem], by simp [go_sem], by simp [go_sem], by simp [go_sem], by simp [go_sem], by simp [go_sem]⟩
  have hlZ := Z.lt
  obtain ⟨c0, c1, c2, c3, c4, c5, c6, c7, c8, c9⟩ := Z
  dsimp only at c0 c1 c2 c3 c4 c5 c6 c7 c8 c9
  by_cases h1 : (bs.size : Int) ≤ k
  · go_enter Tryz.func93, Tryz.ntmps93
    go_wp2_with fail
    refine (szRow_fits bt bk bv bs k _ h1 hk).mono ?_
    rintro e w1 ⟨rfl, g1⟩
    have Z : ChC w1 w.heap.size 0 ⟨x0, ⟨bt, bk, bv, bs⟩, x5, ⟨at', ak, av, sa⟩⟩ := ChC.below (w := Y) ⟨c0, c1, c2, c3, c4, c5, c6, c7, c8, c9⟩ g1 hlZ
    have g := gY.trans (g1.mono gY.size)
    clear c0 c1 c2 c3 c4 c5 c6 c7 c8 c9 gY g1 hY
    obtain ⟨q, hq⟩ : ∃ q : Int, q = k - (bs.size : Int) := ⟨_, rfl⟩
    have hq0 : 0 ≤ q := by omega
    have hq1 : q ≤ 1048576 := by omega
    have hqk : q ≤ k := by omega
    have dq : ¬ q < 0 := by omega
    have hbs : bs.size ≤ 1048576 := by omega
    rw [← hq]
    clear hq h1
    obtain ⟨c0, c1, c2, c3, c4, c5, c6, c7, c8, c9⟩ := Z
    dsimp only at c0 c1 c2 c3 c4 c5 c6 c7 c8 c9
    by_cases h2 : (sa.size : Int) ≤ q
    · go_wp2_with fail
      refine (szRow_fits at' ak av sa q _ h2 hq1).mono ?_
      rintro e w2 ⟨rfl, g2⟩
      have g := g.trans (g2.mono g.size)
      have dr : ¬ (q - (sa.size : Int) < 0) := by omega
      obtain ⟨r, hr⟩ : ∃ r : Int, r = q - (sa.size : Int) := ⟨_, rfl⟩
      rw [← hr] at dr ⊢
      have hr1 : r ≤ k := by omega
      have hsa : sa.size ≤ 1048576 := by omega
      clear c0 c1 c2 c3 c4 c5 c6 c7 c8 c9 g2 hr
      go_wp2_with fail
      go_ret
      exact ⟨⟨r, rfl, hr1, fun _ => ⟨hbs, hsa⟩⟩, g⟩
    · go_wp2_with fail
      refine (szRow_over at' ak av sa q _ ha hq0 hq1 (by omega)).mono ?_
      rintro e w2 ⟨rfl, g2⟩
      have g := g.trans (g2.mono g.size)
      clear c0 c1 c2 c3 c4 c5 c6 c7 c8 c9 g2
      go_wp2_with fail
      go_ret
      exact ⟨⟨-1, rfl, by omega, fun h => absurd h (by omega)⟩, g⟩
  · go_enter Tryz.func93, Tryz.ntmps93
    go_wp2_with fail
    refine (szRow_over bt bk bv bs k _ hb hk0 hk (by omega)).mono ?_
    rintro e w1 ⟨rfl, g1⟩
    have g := gY.trans (g1.mono gY.size)
    clear c0 c1 c2 c3 c4 c5 c6 c7 c8 c9 gY g1 hY
    go_wp2_with fail
    go_ret
    exact ⟨⟨-1, rfl, by omega, fun h => absurd h (by omega)⟩, g⟩

set_option maxHeartbeats 2000000 in
theorem szChangeS_le (a : Option Addr) (cs : List Chg) (n c : Nat) (w : World) (k : Int) (hn : cs.length = n) (hm : n ≤ 9223372036854775807) (hs : ∀ x ∈ cs, x.b.s.size ≤ maxLen ∧ x.a.s.size ≤ maxLen) (hr : Rs chE 10 w a cs) (hk0 : 0 ≤ k) (hk : k ≤ 1048576) :
    Calls Tryz.prog 61 #[.slice a n c, .int .i64 k] w fun e w' => (∃ r : Int, e = .returned (.int .i64 r) ∧ r ≤ k ∧ (0 ≤ r → r + n ≤ k ∧ ∀ x ∈ cs, x.b.s.size ≤ 1048576 ∧ x.a.s.size ≤ 1048576)) ∧ Below w.heap.size w w' := by
  by_cases h : k < n
  · have d : (k - (n : Int) < 0) := by omega
    go_enter Tryz.func61, Tryz.ntmps61
    go_wp2_with fail
    go_ret
    exact ⟨⟨-1, rfl, by omega, by omega⟩, Below.refl _ _⟩
  · have d : ¬ (k - (n : Int) < 0) := by omega
    by_cases h0 : n = 0
    · subst h0
      obtain rfl : cs = [] := List.length_eq_zero_iff.1 hn
      go_enter Tryz.func61, Tryz.ntmps61
      go_wp2_with fail
      go_rounds 1
      go_ret
      exact ⟨⟨_, rfl, by omega, fun _ => ⟨by omega, fun x hx => by simp at hx⟩⟩, Below.refl _ _⟩
    have HR := hr
    rcases hr with hr | ⟨b, off, rfl, hc⟩
    · exfalso; rw [hr] at hn; simp at hn; omega
    clear hc
    have HR : Hid (Rs chE 10 w (some ⟨b, off, none⟩) cs) := HR
    have HS : Hid (∀ x ∈ cs, x.b.s.size ≤ maxLen ∧ x.a.s.size ≤ maxLen) := hs
    have HN : Hid (cs.length = n) := hn
    clear hn hs
    go_enter Tryz.func61, Tryz.ntmps61
    go_wp2_with fail
    go_loopw [5, 1] (fun i l wr => ∃ (j : Nat) (m : Int), j ≤ n ∧ i = .int .i64 j ∧ l = .int .i64 m ∧ 0 ≤ m ∧ m ≤ k - (n : Int) ∧ Hid (∀ x ∈ cs.take j, x.b.s.size ≤ 1048576 ∧ x.a.s.size ≤ 1048576) ∧ Below w.heap.size w wr) (fun i _ _ => n - (intOf i).toNat)
    case atStart => exact ⟨0, _, Nat.zero_le _, rfl, rfl, by omega, by omega, fun x hx => by simp at hx, Below.refl _ _⟩
    case round =>
      obtain ⟨j, m, hj, rfl, rfl, hm0, hm1, hall, g⟩ := hrel
      by_cases hlt : j < n
      · obtain ⟨x, hx⟩ := at_ltC (cs := cs) (i := j) (by rw [HN.out]; exact hlt)
        have Z := (HR.out.below g (Nat.le_refl _)).chgAt hx
        have hjn : (j : Int) < (n : Int) := by omega
        have hsl := HS.out x (List.mem_of_getElem? hx)
        have HT : Hid (cs.take (j + 1) = cs.take j ++ [x]) := take_snoc hx
        clear hx
        obtain ⟨x0, ⟨bt, bk, bv, bs⟩, x5, ⟨at', ak, av, sa⟩⟩ := x
        obtain ⟨c0, c1, c2, c3, c4, c5, c6, c7, c8, c9⟩ := Z
        dsimp only at c0 c1 c2 c3 c4 c5 c6 c7 c8 c9 hsl
        go_wp2_with fail
        refine (szChange_le x0 bt bk bv bs x5 at' ak av sa m _ hsl.1 hsl.2 hm0 (by omega)).mono ?_
        rintro e w' ⟨⟨r, rfl, hr1, hl⟩, g'⟩
        have g : Below w.heap.size w w' := g.trans (g'.mono g.size)
        clear g' c0 c1 c2 c3 c4 c5 c6 c7 c8 c9 hsl
        by_cases hr0 : r < 0
        · clear hl
          go_wp2_with fail
          go_ret
          exact ⟨⟨-1, rfl, by omega, by omega⟩, g⟩
        · have H2 : Hid (∀ x ∈ cs.take (j + 1), x.b.s.size ≤ 1048576 ∧ x.a.s.size ≤ 1048576) := by
            intro x hx
            rw [HT.out] at hx
            rcases List.mem_append.1 hx with hx | hx
            · exact hall.out x hx
            · simp at hx; subst hx; exact hl (by omega)
          clear hl HT hall
          go_wp2_with fail
          go_roundw
          case rel => exact ⟨j + 1, r, by omega, by go_num, rfl, by omega, by omega, H2, g⟩
          case measure => simp [intOf]; omega
      · have e : j = n := by omega
        subst e
        go_wp2_with fail
        go_ret
        refine ⟨⟨_, rfl, by omega, fun _ => ⟨by omega, fun x hx => ?_⟩⟩, g⟩
        exact hall.out x (by rw [List.take_of_length_le (by rw [HN.out]; exact Nat.le_refl _)]; exact hx)

set_option maxHeartbeats 1000000 in
theorem szTx_le (id : Int) (ua : Option Addr) (us : List Chg) (un uc : Nat) (ma : Option Addr) (mn mc : Nat) (la : Option Addr) (ln lc : Nat) (k : Int) (w : World) (hu : us.length = un) (hum : un ≤ 9223372036854775807) (hus : ∀ x ∈ us, x.b.s.size ≤ maxLen ∧ x.a.s.size ≤ maxLen) (hr : Rs chE 10 w ua us) (hmn : mn ≤ 9223372036854775807) (hln : ln ≤ 9223372036854775807) (hk0 : 0 ≤ k) (hk : k ≤ 1048576) :
    Calls Tryz.prog 34 #[.agg #[.int .i64 id, .slice ua un uc, .slice ma mn mc, .slice la ln lc], .int .i64 k] w fun e w' => (∃ r : Int, e = .returned (.int .i64 r) ∧ r ≤ k ∧ (0 ≤ r → r + un + mn + ln ≤ k ∧ (∀ x ∈ us, x.b.s.size ≤ 1048576 ∧ x.a.s.size ≤ 1048576))) ∧ Below w.heap.size w w' := by
  go_enter Tryz.func34, Tryz.ntmps34
  go_upto_region 1 with (fail)
  generalize hY : World.alloc _ _ = Y
  have gY : Below w.heap.size w Y := by rw [← hY]; go_grown
  have hc : T4 Y w.heap.size id ua un uc ma mn mc la ln lc := by rw [← hY]; exact ⟨by simp [go_sem], by simp [go_sem], by simp [go_sem], by simp [go_sem]⟩
  clear hY
  have hsz := szChangeS_le ua us un uc Y k hu hum hus (hr.below gY (Nat.le_refl _)) hk0 hk
  have hlt := hc.lt
  obtain ⟨c0, c1, c2, c3⟩ := hc
  go_wp2_with fail
  refine hsz.mono ?_
  rintro e w1 ⟨⟨r, rfl, hr1, hl⟩, g1⟩
  have hc : T4 w1 w.heap.size id ua un uc ma mn mc la ln lc := T4.below (w := Y) ⟨c0, c1, c2, c3⟩ g1 hlt
  have g := gY.trans (g1.mono gY.size)
  clear hsz c0 c1 c2 c3 g1 gY
  obtain ⟨c0, c1, c2, c3⟩ := hc
  by_cases h0 : r < 0
  · go_wp2_with fail
    go_ret
    exact ⟨⟨-1, rfl, by omega, by omega⟩, g⟩
  have h0' : ¬ r < 0 := h0
  obtain ⟨hu1, HU2⟩ := hl (by omega)
  clear hl
  go_wp2_with fail
  refine (szInt64S_le ma mn mc r _ hmn (by omega) (by omega)).mono ?_
  rintro e w2 ⟨⟨r2, rfl, hr2, hl⟩, hw⟩
  subst w2
  by_cases h2 : r2 < 0
  · go_wp2_with fail
    go_ret
    exact ⟨⟨-1, rfl, by omega, by omega⟩, g⟩
  have h2' : ¬ r2 < 0 := h2
  have hm1 := hl (by omega)
  clear hl
  go_wp2_with fail
  refine (szKeyS_le la ln lc r2 _ hln (by omega) (by omega)).mono ?_
  rintro e w2 ⟨⟨r3, rfl, hr3, hl⟩, hw⟩
  subst w2
  by_cases h3 : r3 < 0
  · go_wp2_with fail
    go_ret
    exact ⟨⟨-1, rfl, by omega, by omega⟩, g⟩
  have h3' : ¬ r3 < 0 := h3
  have hl1 := hl (by omega)
  clear hl
  go_wp2_with fail
  go_ret
  exact ⟨⟨r3, rfl, by omega, fun _ => ⟨by omega, HU2⟩⟩, g⟩

set_option maxHeartbeats 2000000 in
theorem szTxS_le (a : Option Addr) (xs : List TxV) (n c : Nat) (w : World) (k : Int) (h : IsTxs w a n xs) (hk0 : 0 ≤ k) (hk : k ≤ 1048576) :
    Calls Tryz.prog 17 #[.slice a n c, .int .i64 k] w fun e w' => (∃ r : Int, e = .returned (.int .i64 r) ∧ r ≤ k ∧ (0 ≤ r → r + n + nS xs ≤ k ∧ ∀ x ∈ xs, TxOk 1048576 x)) ∧ Below w.heap.size w w' := by
  obtain ⟨hr, hn, hm, hs⟩ := h
  have hml : maxLen = 9223372036854775807 := by decide
  by_cases h : k < n
  · have d : (k - (n : Int) < 0) := by omega
    clear hml
    go_enter Tryz.func17, Tryz.ntmps17
    go_wp2_with fail
    go_ret
    exact ⟨⟨-1, rfl, by omega, by omega⟩, Below.refl _ _⟩
  have d : ¬ (k - (n : Int) < 0) := by omega
  have HR : Hid (∀ W, Below w.heap.size w W → TxRd W a xs) := fun W hW => hr.below hW (Nat.le_refl _)
  have HS : Hid (∀ x ∈ xs, TxOk 9223372036854775807 x) := by rw [hml] at hs; exact hs
  have HN : Hid (xs.length = n) := hn
  have HML : Hid (maxLen = 9223372036854775807) := hml
  clear hn hs hr hml
  go_enter Tryz.func17, Tryz.ntmps17
  go_wp2_with fail
  go_loopw [5, 1] (fun i l wr => ∃ (j : Nat) (m : Int), j ≤ n ∧ i = .int .i64 j ∧ l = .int .i64 m ∧ 0 ≤ m ∧ m + (nS (xs.take j) : Nat) ≤ k - (n : Int) ∧ Hid (∀ x ∈ xs.take j, TxOk 1048576 x) ∧ Below w.heap.size w wr) (fun i _ _ => n - (intOf i).toNat)
  case atStart => exact ⟨0, _, Nat.zero_le _, rfl, rfl, by omega, by simp [nS], fun x hx => by simp at hx, Below.refl _ _⟩
  case round =>
    obtain ⟨j, m, hj, rfl, rfl, hm0, hm1, hall, g⟩ := hrel
    by_cases hlt : j < n
    · obtain ⟨x, hx⟩ := at_ltT (xs := xs) (i := j) (by rw [HN.out]; exact hlt)
      obtain ⟨b, off, ua, ma, la, uc, mc, lc, rfl, Z⟩ := (HR.out wr g).at hx
      have hjn : (j : Int) < (n : Int) := by omega
      have hok := HS.out x (List.mem_of_getElem? hx)
      have HT : Hid (xs.take (j + 1) = xs.take j ++ [x]) := take_snoc hx
      have HNS : Hid (nS (xs.take (j + 1)) = nS (xs.take j) + nX x) := nS_step hx
      clear hx
      obtain ⟨id, us, ms, ls⟩ := x
      obtain ⟨c0, c1, c2, c3, hu, hmm, hll⟩ := Z
      obtain ⟨k1, k2, k3, k4⟩ := hok
      dsimp only at c0 c1 c2 c3 hu hmm hll k1 k2 k3 k4
      have hcon := fun W hW => szTx_le id ua us us.length uc ma ms.length mc la ls.length lc m W rfl k1 (fun x hx => by rw [HML.out]; exact k2 x hx) (hu.below (hW : Below wr.heap.size wr W) (Nat.le_refl _)) k3 k4 hm0 (by omega)
      have hcon := hcon wr (Below.refl _ _)
      clear hu hmm hll k2
      have HO : Hid (∀ p : Prop, p → p) := fun p h => h
      obtain ⟨un, hun⟩ : ∃ un, us.length = un := ⟨_, rfl⟩
      obtain ⟨mn, hmn⟩ : ∃ mn, ms.length = mn := ⟨_, rfl⟩
      obtain ⟨ln, hln⟩ : ∃ ln, ls.length = ln := ⟨_, rfl⟩
      have HU : Hid (us.length = un ∧ ms.length = mn ∧ ls.length = ln) := ⟨hun, hmn, hln⟩
      rw [hun, hmn, hln] at hcon
      rw [hun] at c1
      rw [hmn] at c2
      rw [hln] at c3
      clear hun hmn hln k1 k3 k4
      go_wp2_with fail
      refine hcon.mono ?_
      rintro e w1 ⟨⟨r, rfl, hr1, hl⟩, g1⟩
      have HL : Hid (0 ≤ r → ∀ x ∈ xs.take (j + 1), TxOk 1048576 x) := fun h0 x hx => by
        rw [HT.out] at hx
        rcases List.mem_append.1 hx with hx | hx
        · exact hall.out x hx
        · rw [List.mem_singleton.1 hx]
          obtain ⟨q1, q2⟩ := hl h0
          obtain ⟨p1, p2, p3⟩ := HU.out
          exact ⟨by rw [p1]; omega, q2, by rw [p2]; omega, by rw [p3]; omega⟩
      have HS2 : Hid (0 ≤ r → r + (nS (xs.take (j + 1)) : Nat) ≤ k - (n : Int)) := fun h0 => by
        obtain ⟨q1, q2⟩ := hl h0
        obtain ⟨p1, p2, p3⟩ := HU.out
        have e := HNS.out
        unfold nX at e
        dsimp only at e
        rw [p1, p2, p3] at e
        omega
      have g := g.trans (g1.mono g.size)
      clear g1 c0 c1 c2 c3 hl hall HU HT hcon HNS
      by_cases h0 : r < 0
      · go_wp2_with fail
        go_ret
        exact ⟨⟨-1, rfl, by omega, by omega⟩, g⟩
      · have h0' : ¬ r < 0 := h0
        have HL2 : Hid (∀ x ∈ xs.take (j + 1), TxOk 1048576 x) := HL.out (by omega)
        have hm2 : r + (nS (xs.take (j + 1)) : Nat) ≤ k - (n : Int) := HS2.out (by omega)
        clear HL HS2
        go_wp2_with fail
        go_roundw
        case rel => exact ⟨j + 1, r, by omega, by go_num, rfl, by omega, hm2, HL2, g⟩
        case measure => simp [intOf]; omega
    · have e : j = n := by omega
      subst e
      go_wp2_with fail
      go_ret
      exact ⟨⟨_, rfl, by omega, fun _ => ⟨by rw [List.take_of_length_le (by rw [HN.out]; exact Nat.le_refl _)] at hm1; omega, fun x hx => hall.out x (by rw [List.take_of_length_le (by rw [HN.out]; exact Nat.le_refl _)]; exact hx)⟩⟩, g⟩

end Go.Proofs.YtmboclfgldgefaaGreat
