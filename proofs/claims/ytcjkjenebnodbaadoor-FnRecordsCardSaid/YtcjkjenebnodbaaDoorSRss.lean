/-
  What compares, marks and looks through a RecordResult.
-/
import Derived.Test.YtcjkjenebnodbaaDoorSSrr
import Derived.Maps.AppendAt

namespace Go.Proofs.YtcjkjenebnodbaaDoor
open Go.RowKit
set_option linter.unusedVariables false

set_option maxHeartbeats 400000 in
theorem eqRunS_sameS (a b : Option Addr) (n c d : Nat) (P : Nat → Int) (A B : Nat → Option Addr) (C D : Nat → Nat) (Z : Nat → List Int) (F G : Nat → Nat) (la ua lb ub : Nat) (w : World) (hm : n + took Z n ≤ 1048576) (hx : OwnS la ua w a n P A C Z F) (hy : OwnS lb ub w b n P B D Z G) :
    Calls Tryd.prog 42 #[.slice a n c, .slice b n d] w fun e w' => e = .returned (.bool true) ∧ Below w.heap.size w w' := by
  by_cases h0 : n = 0
  · subst h0
    go_enter Tryd.func42, Tryd.ntmps42
    go_wp2_with fail
    go_rounds 1
    go_ret
    exact ⟨rfl, Below.refl _ _⟩
  · obtain ⟨x, rfl, hx'⟩ := hx.resolve_left h0
    obtain ⟨y, rfl, hy'⟩ := hy.resolve_left h0
    exact eqRunS_same x y n c d P A B C D Z F G la ua lb ub w hm hx' hy'

theorem took_le (Z : Nat → List Int) (c : Nat) : ∀ n, (∀ i, i < n → (Z i).length ≤ c) → took Z n ≤ c * n
  | 0, _ => by simp [took]
  | n + 1, h => by
    have h1 := took_le Z c n (fun i hi => h i (by omega))
    have h2 := h n (by omega)
    simp only [took]
    rw [Nat.mul_succ]
    omega

set_option maxHeartbeats 1000000 in
theorem eqRecord_sameS (k tx pg : Int) (a b : Option Addr) (n c d : Nat) (P : Nat → Int) (A B : Nat → Option Addr) (C D : Nat → Nat) (Z : Nat → List Int) (F G : Nat → Nat) (la ua lb ub : Nat) (w : World) (hm : n + took Z n ≤ 1048576) (hx : OwnS la ua w a n P A C Z F) (hy : OwnS lb ub w b n P B D Z G) :
    Calls Tryd.prog 20 #[.agg #[.int .i64 k, .int .i64 tx, .int .i64 pg, .slice a n c], .agg #[.int .i64 k, .int .i64 tx, .int .i64 pg, .slice b n d]] w fun e w' => e = .returned (.bool true) ∧ Below w.heap.size w w' := by
  have HX : Hid (OwnS la ua w a n P A C Z F) := hx
  have HY : Hid (OwnS lb ub w b n P B D Z G) := hy
  clear hx hy
  go_enter Tryd.func20, Tryd.ntmps20
  go_wp2_with fail
  refine (eqRunS_sameS a b n c d P A B C D Z F G la ua lb ub _ hm (HX.out.below (by go_grown)) (HY.out.below (by go_grown))).mono ?_
  rintro e w' ⟨rfl, hb⟩
  have g : Below w.heap.size w w' := Below.trans (by go_grown) (hb.mono (by simp; omega))
  clear hb
  go_wp2_with fail
  go_ret
  exact ⟨rfl, g⟩

end Go.Proofs.YtcjkjenebnodbaaDoor

/-
  Records in memory, many of them: what a slice of records holds; records that are appended one by one.
-/
namespace Go.Proofs.YtcjkjenebnodbaaDoor
open Go.RowKit
set_option linter.unusedVariables false

/-- What a record tells. -/
structure Rc where
  k : Int
  t : Int
  g : Int
  n : Nat
  P : Nat → Int
  Z : Nat → List Int
/-- Where its runs lie. -/
structure Ad where
  a : Option Addr
  c : Nat
  A : Nat → Option Addr
  C : Nat → Nat
  F : Nat → Nat
  lo : Nat
  hi : Nat

/-- The runs of r lie as d tells. -/
def RunsAt (w : World) (r : Rc) (d : Ad) : Prop := OwnS d.lo d.hi w d.a r.n r.P d.A d.C r.Z d.F

theorem RunsAt.turned {w w' : World} {r : Rc} {d : Ad} (h : RunsAt w r d) {x y : Nat} (ht : Turned x y w w') (hn : d.hi ≤ x ∨ y ≤ d.lo) : RunsAt w' r d := OwnS.turned h ht hn
theorem RunsAt.below {w w' : World} {r : Rc} {d : Ad} (h : RunsAt w r d) (hb : Below w.heap.size w w') : RunsAt w' r d := OwnS.below h hb

/-- Block b, one of lo to below hi, holds n records, the runs of each in memory of its own. -/
structure OwnR (lo hi : Nat) (w : World) (b n : Nat) (R : Nat → Rc) (D : Nat → Ad) : Prop where
  l0 : lo ≤ b
  h0 : b < hi
  c0 : ∀ i, i < n → w.cell? ⟨b, i * 4, none⟩ = some (.int .i64 (R i).k)
  c1 : ∀ i, i < n → w.cell? ⟨b, i * 4 + 1, none⟩ = some (.int .i64 (R i).t)
  c2 : ∀ i, i < n → w.cell? ⟨b, i * 4 + 2, none⟩ = some (.int .i64 (R i).g)
  c3 : ∀ i, i < n → w.cell? ⟨b, i * 4 + 3, none⟩ = some (.slice (D i).a (R i).n (D i).c)
  f0 : ∀ i, i < n → w.frozen? ⟨b, i * 4, none⟩ = false
  f1 : ∀ i, i < n → w.frozen? ⟨b, i * 4 + 1, none⟩ = false
  f2 : ∀ i, i < n → w.frozen? ⟨b, i * 4 + 2, none⟩ = false
  f3 : ∀ i, i < n → w.frozen? ⟨b, i * 4 + 3, none⟩ = false
  rn : ∀ i, i < n → RunsAt w (R i) (D i)
  fr : ∀ i, i < n → lo ≤ (D i).lo ∧ (D i).lo ≤ (D i).hi ∧ (D i).hi ≤ hi ∧ ((D i).hi ≤ b ∨ b < (D i).lo)
  ne : ∀ i j, i < j → j < n → (D i).hi ≤ (D j).lo

section
variable {lo hi b n : Nat} {w w' : World} {R R' : Nat → Rc} {D : Nat → Ad}
theorem OwnR.turned (h : OwnR lo hi w b n R D) {x y : Nat} (ht : Turned x y w w') (hn : hi ≤ x ∨ y ≤ lo) : OwnR lo hi w' b n R D := by
  have h1 := h.l0
  have h2 := h.h0
  exact ⟨h.l0, h.h0, fun i hi => ht.cell (h.c0 i hi) (by simp only; omega), fun i hi => ht.cell (h.c1 i hi) (by simp only; omega), fun i hi => ht.cell (h.c2 i hi) (by simp only; omega), fun i hi => ht.cell (h.c3 i hi) (by simp only; omega),
    fun i hi => (ht.frozen (h.c0 i hi) (by simp only; omega)).trans (h.f0 i hi), fun i hi => (ht.frozen (h.c1 i hi) (by simp only; omega)).trans (h.f1 i hi), fun i hi => (ht.frozen (h.c2 i hi) (by simp only; omega)).trans (h.f2 i hi), fun i hi => (ht.frozen (h.c3 i hi) (by simp only; omega)).trans (h.f3 i hi),
    fun i hi => (h.rn i hi).turned ht (by have := h.fr i hi; omega), h.fr, h.ne⟩
theorem OwnR.below (h : OwnR lo hi w b n R D) (hb : Below w.heap.size w w') : OwnR lo hi w' b n R D :=
  h.turned (x := hi) (y := hi) (Turned.ofBelow hb) (.inl (Nat.le_refl _))
theorem OwnR.mono (h : OwnR lo hi w b n R D) {lo' hi' : Nat} (hl : lo' ≤ lo) (hh : hi ≤ hi') : OwnR lo' hi' w b n R D :=
  ⟨Nat.le_trans hl h.l0, Nat.lt_of_lt_of_le h.h0 hh, h.c0, h.c1, h.c2, h.c3, h.f0, h.f1, h.f2, h.f3, h.rn, fun i hi => by have := h.fr i hi; omega, h.ne⟩
end

/-- Records of one's own, or none. -/
def OwnRS (lo hi : Nat) (w : World) (a : Option Addr) (n : Nat) (R : Nat → Rc) (D : Nat → Ad) : Prop := n = 0 ∨ ∃ b, a = some ⟨b, 0, none⟩ ∧ OwnR lo hi w b n R D
section
variable {lo hi n : Nat} {w w' : World} {a : Option Addr} {R R' : Nat → Rc} {D : Nat → Ad}
theorem OwnRS.turned (h : OwnRS lo hi w a n R D) {x y : Nat} (ht : Turned x y w w') (hn : hi ≤ x ∨ y ≤ lo) : OwnRS lo hi w' a n R D := h.imp id (fun ⟨b, e, ho⟩ => ⟨b, e, ho.turned ht hn⟩)
theorem OwnRS.below (h : OwnRS lo hi w a n R D) (hb : Below w.heap.size w w') : OwnRS lo hi w' a n R D := h.imp id (fun ⟨b, e, ho⟩ => ⟨b, e, ho.below hb⟩)
theorem OwnRS.mono (h : OwnRS lo hi w a n R D) {lo' hi' : Nat} (hl : lo' ≤ lo) (hh : hi ≤ hi') : OwnRS lo' hi' w a n R D := h.imp id (fun ⟨b, e, ho⟩ => ⟨b, e, ho.mono hl hh⟩)
end

/-- The cells of k records. -/
def rcells (R : Nat → Rc) (D : Nat → Ad) : Nat → List Value
  | 0 => []
  | k + 1 => rcells R D k ++ [.int .i64 (R k).k, .int .i64 (R k).t, .int .i64 (R k).g, .slice (D k).a (R k).n (D k).c]
theorem rcells_length (R : Nat → Rc) (D : Nat → Ad) : ∀ k, (rcells R D k).length = k * 4
  | 0 => rfl
  | k + 1 => by simp [rcells, rcells_length R D k]; omega
theorem rcells_congr {R : Nat → Rc} {D D' : Nat → Ad} : ∀ k, (∀ i, i < k → D i = D' i) → rcells R D k = rcells R D' k
  | 0, _ => rfl
  | k + 1, h => by
    simp only [rcells]
    rw [rcells_congr k (fun i hi => h i (by omega)), h k (by omega)]
theorem rcells_at (R : Nat → Rc) (D : Nat → Ad) : ∀ k i, i < k → (rcells R D k)[i * 4]? = some (.int .i64 (R i).k) ∧ (rcells R D k)[i * 4 + 1]? = some (.int .i64 (R i).t) ∧ (rcells R D k)[i * 4 + 2]? = some (.int .i64 (R i).g) ∧ (rcells R D k)[i * 4 + 3]? = some (.slice (D i).a (R i).n (D i).c)
  | 0, i, h => absurd h (Nat.not_lt_zero _)
  | k + 1, i, h => by
    have hl := rcells_length R D k
    simp only [rcells]
    by_cases e : i = k
    · subst e
      rw [List.getElem?_append_right (by omega), List.getElem?_append_right (by omega), List.getElem?_append_right (by omega), List.getElem?_append_right (by omega), hl, Nat.sub_self, show i * 4 + 1 - i * 4 = 1 by omega, show i * 4 + 2 - i * 4 = 2 by omega, show i * 4 + 3 - i * 4 = 3 by omega]
      exact ⟨rfl, rfl, rfl, rfl⟩
    · rw [List.getElem?_append_left (by omega), List.getElem?_append_left (by omega), List.getElem?_append_left (by omega), List.getElem?_append_left (by omega)]
      exact rcells_at R D k i (by omega)

/-- v holds k records in memory from n₀ on, appended one by one. -/
structure Rlt (n₀ : Nat) (W : World) (v : Value) (k : Nat) (R : Nat → Rc) (D : Nat → Ad) : Prop where
  row : W.ownsRow n₀ 27 4 v k (rcells R D k)
  rn : ∀ i, i < k → RunsAt W (R i) (D i)
  fr : ∀ i, i < k → n₀ ≤ (D i).lo ∧ (D i).lo ≤ (D i).hi ∧ (D i).hi ≤ W.heap.size ∧ ∀ g, v.ownBlock = some g → (D i).hi ≤ g ∨ g < (D i).lo
  ne : ∀ i j, i < j → j < k → (D i).hi ≤ (D j).lo

theorem turned_grown {W W' : World} {g : Nat} (h : W.grownBy W' (some g)) : Turned g (g + 1) W W' := ⟨h.os, h.tape, h.output, h.size, fun k hk hn => h.block k hk (fun e => by injection e with e; omega)⟩
theorem below_grown_none {W W' : World} (h : W.grownBy W' none) : Below W.heap.size W W' := ⟨h.os, h.tape, h.output, h.size, fun k hk => h.block k hk (fun e => by cases e)⟩

section
variable {n₀ : Nat} {W W' : World} {v : Value} {k : Nat} {R : Nat → Rc} {D : Nat → Ad}
theorem Rlt.below (h : Rlt n₀ W v k R D) (hb : Below W.heap.size W W') : Rlt n₀ W' v k R D :=
  ⟨ownsRow_below h.row hb, fun i hi => (h.rn i hi).below hb, fun i hi => by obtain ⟨h1, h2, h3, h4⟩ := h.fr i hi; exact ⟨h1, h2, Nat.le_trans h3 hb.size, h4⟩, h.ne⟩
theorem Rlt.nil (n₀ : Nat) (W : World) (R : Nat → Rc) (D : Nat → Ad) : Rlt n₀ W (.slice none 0 0) 0 R D :=
  ⟨World.ownsRow_nil _ _ _ _, fun i hi => absurd hi (Nat.not_lt_zero _), fun i hi => absurd hi (Nat.not_lt_zero _), fun i j _ hi => absurd hi (Nat.not_lt_zero _)⟩
theorem Rlt.form (h : Rlt n₀ W v k R D) : ∃ a c, v = .slice a k c := by
  rcases h.row.2 with ⟨e, h0⟩ | ⟨g, cap, cur, e, _⟩
  · exact ⟨none, 0, by rw [e, h0]⟩
  · exact ⟨_, cap, e⟩

theorem Rlt.kept (h : Rlt n₀ W v k R D) {d : Ad} {r : Rc} (hr : RunsAt W r d) (hd : ∀ g, v.ownBlock = some g → d.hi ≤ g ∨ g < d.lo) (hg : W.grownBy W' v.ownBlock) : RunsAt W' r d := by
  cases hv : v.ownBlock with
  | none => rw [hv] at hg; exact hr.below (below_grown_none hg)
  | some g => rw [hv] at hg; exact hr.turned (turned_grown hg) (by have := hd g hv; omega)

/-- A record comes behind. -/
theorem Rlt.add (h : Rlt n₀ W v k R D) {v' : Value} {d : Ad} (hr : RunsAt W (R k) d) (hlo : ∀ i, i < k → (D i).hi ≤ d.lo) (hn : n₀ ≤ d.lo) (hdl : d.lo ≤ d.hi) (hdh : d.hi ≤ W.heap.size) (hvb : ∀ g, v.ownBlock = some g → g < d.lo)
    (hrow : W'.ownsRow n₀ 27 4 v' (k + 1) (rcells R D k ++ [.int .i64 (R k).k, .int .i64 (R k).t, .int .i64 (R k).g, .slice d.a (R k).n d.c])) (hg : W.grownBy W' v.ownBlock) (hat : v'.ownBlock = v.ownBlock ∨ v'.ownBlock = some W.heap.size) :
    Rlt n₀ W' v' (k + 1) R (fun i => if i = k then d else D i) := by
  have hnew : ∀ i, i < k + 1 → ∀ g, v'.ownBlock = some g → (if i = k then d else D i).hi ≤ g ∨ g < (if i = k then d else D i).lo := fun i hi g hgb => by
    by_cases e : i = k
    · simp only [if_pos e]
      rcases hat with h1 | h1
      · exact .inr (hvb g (h1.symm.trans hgb))
      · rw [h1] at hgb; injection hgb with hgb; omega
    · simp only [if_neg e]
      obtain ⟨_, _, h3, h4⟩ := h.fr i (by omega)
      rcases hat with h1 | h1
      · exact h4 g (h1.symm.trans hgb)
      · rw [h1] at hgb; injection hgb with hgb; omega
  refine ⟨?_, fun i hi => ?_, fun i hi => ⟨?_, ?_, ?_, hnew i hi⟩, fun i j hij hj => ?_⟩
  · simp only [rcells, if_true]
    rw [← rcells_congr k (R := R) (D := D) (fun i hi => by simp only [if_neg (show ¬ i = k by omega)])]
    exact hrow
  · by_cases e : i = k
    · subst e
      simp only [if_true]
      exact h.kept hr (fun g hg => .inr (hvb g hg)) hg
    · simp only [if_neg e]
      exact h.kept (h.rn i (by omega)) (h.fr i (by omega)).2.2.2 hg
  · by_cases e : i = k
    · simp only [if_pos e]; exact hn
    · simp only [if_neg e]; exact (h.fr i (by omega)).1
  · by_cases e : i = k
    · simp only [if_pos e]; exact hdl
    · simp only [if_neg e]; exact (h.fr i (by omega)).2.1
  · have := hg.size
    by_cases e : i = k
    · simp only [if_pos e]; omega
    · simp only [if_neg e]; have := (h.fr i (by omega)).2.2.1; omega
  · have hik : ¬ i = k := by omega
    simp only [if_neg hik]
    by_cases e : j = k
    · simp only [if_pos e]; exact hlo i (by omega)
    · simp only [if_neg e]; exact h.ne i j hij (by omega)

/-- Records that were appended are records of one's own. -/
theorem Rlt.own (h : Rlt n₀ W v k R D) : ∃ a c, v = .slice a k c ∧ OwnRS n₀ W.heap.size W a k R D := by
  rcases h.row.2 with ⟨rfl, rfl⟩ | ⟨g, cap, cur, rfl, hn, hg, _⟩
  · exact ⟨none, 0, rfl, .inl rfl⟩
  · have hr := h.row
    refine ⟨some ⟨g, 0, none⟩, cap, rfl, .inr ⟨g, rfl, hn, (Array.getElem?_eq_some_iff.1 hg).1, fun i hi => ?_, fun i hi => ?_, fun i hi => ?_, fun i hi => ?_, fun i hi => hr.frozenAt _, fun i hi => hr.frozenAt _, fun i hi => hr.frozenAt _, fun i hi => hr.frozenAt _, h.rn, fun i hi => ?_, h.ne⟩⟩
    · rw [hr.cellAt (i * 4) (by omega)]; exact (rcells_at R D k i hi).1
    · rw [hr.cellAt (i * 4 + 1) (by omega)]; exact (rcells_at R D k i hi).2.1
    · rw [hr.cellAt (i * 4 + 2) (by omega)]; exact (rcells_at R D k i hi).2.2.1
    · rw [hr.cellAt (i * 4 + 3) (by omega)]; exact (rcells_at R D k i hi).2.2.2
    · obtain ⟨h1, h2, h3, h4⟩ := h.fr i hi
      exact ⟨h1, h2, h3, h4 g rfl⟩
end

section
variable {P : Program} (w : World)
theorem wp_append_own_at {o : Oper} {a : Act} {K : Act → World → Prop} {Q : Exit → Act → World → Prop} (s x : Operand) (t : TypeId)
    (ho : o.op = .call { callee := .builtin .append, args := #[s, x], argTypes := #[t, t] })
    (base : Nat) (e : TypeId) (i : TypeInfo) (z : Value) (size bytes : Nat) (ht : P.underlying t = some (.slice e)) (hi : P.info? e = some i) (hz : i.zero = some z)
    (hsize : i.size = size) (hby : i.bytes = bytes) (hzs : z.cells.size = size) (hsz : 0 < size)
    (v : Value) (n : Nat) (xs : List Value) (hs : a.eval s = v) (hown : w.ownsRow base e size v n xs)
    (ad : Addr) (m c : Nat) (news : List Value) (hx : a.eval x = .slice (some ad) m c) (hl : news.length = m * size) (hnews : ∀ j u, news[j]? = some u → w.cell? (ad.add j) = some u) (h1 : ∀ u ∈ news, u.oneCell' = true)
    (h63 : n + m ≤ maxLen) (hbytes : (n + m) * bytes ≤ 140737488355328) (hbase : base ≤ w.heap.size)
    (h : ∀ v' w', w'.ownsRow base e size v' (n + m) (xs ++ news) → w.grownBy w' v.ownBlock → (v' = .slice none 0 0 ↔ v = .slice none 0 0 ∧ m = 0) → (v'.ownBlock = v.ownBlock ∨ v'.ownBlock = some w.heap.size) → K (a.put o.dst v') w') : o.wp P a w K Q := by
  obtain ⟨v', w', hr, h2, h3, h4, h5⟩ := run_append_own_at (P := P) w base t o.type e i z size bytes ht hi hz hsize hby hzs hsz v n xs hown ad m c news hl hnews h1 h63 hbytes hbase
  unfold Oper.wp execOp
  simp only [ho, resolve, invoke, builtin, Sem.run_bind, Sem.run_pure, Result.andThen_ok, List.map_toArray, List.map_cons, List.map_nil, hs, hx, hr]
  exact h v' w' h2 h3 h4 h5
end

end Go.Proofs.YtcjkjenebnodbaaDoor
