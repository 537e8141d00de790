/-
  Lists of transactions made one's own, and compared.
-/
import Derived.Test.YtpjlpnaamkbicaaGreatDoorCKTxb

namespace Go.Proofs.YtpjlpnaamkbicaaGreatDoor
open Go.RowKit Go.Maps
set_option linter.unusedVariables false
set_option maxRecDepth 20000

def put4t (w : World) (b o : Nat) (id : Int) (x y z : Value) : World := (((w.setCell ⟨b, o, none⟩ (.int .i64 id)).setCell ⟨b, o + 1, none⟩ x).setCell ⟨b, o + 2, none⟩ y).setCell ⟨b, o + 3, none⟩ z
theorem put4t_other {w : World} {b o p : Nat} {id : Int} {x y z : Value} (h : p < o ∨ o + 4 ≤ p) : (put4t w b o id x y z).cell? ⟨b, p, none⟩ = w.cell? ⟨b, p, none⟩ := by
  unfold put4t
  rw [cell_off (by omega), cell_off (by omega), cell_off (by omega), cell_off (by omega)]
theorem put4t_frozen {w : World} {b o : Nat} {id : Int} {x y z : Value} (p : Addr) : (put4t w b o id x y z).frozen? p = w.frozen? p := by
  unfold put4t
  rw [World.frozen?_setCell, World.frozen?_setCell, World.frozen?_setCell, World.frozen?_setCell]
theorem put4t_turned {w : World} {b o : Nat} {id : Int} {x y z : Value} : Turned b (b + 1) w (put4t w b o id x y z) :=
  ((((Turned.refl _ _ w).setCell (p := ⟨b, o, none⟩) (Nat.le_refl _) (Nat.lt_succ_self _) _).setCell (p := ⟨b, o + 1, none⟩) (Nat.le_refl _) (Nat.lt_succ_self _) _).setCell (p := ⟨b, o + 2, none⟩) (Nat.le_refl _) (Nat.lt_succ_self _) _).setCell (p := ⟨b, o + 3, none⟩) (Nat.le_refl _) (Nat.lt_succ_self _) _
/-- A transaction at a place of block g, whose lists lie behind g, each in blocks of its own. -/
def TxB (w : World) (g o : Nat) (x : TxV) (u0 u1 m0 m1 l0 l1 : Nat) : Prop :=
  ∃ u' m' l', (w.cell? ⟨g, o, none⟩ = some (.int .i64 x.id) ∧ w.cell? ⟨g, o + 1, none⟩ = some (.slice (some ⟨u', 0, none⟩) x.u.length x.u.length) ∧ w.cell? ⟨g, o + 2, none⟩ = some (.slice (some ⟨m', 0, none⟩) x.m.length x.m.length) ∧ w.cell? ⟨g, o + 3, none⟩ = some (.slice (some ⟨l', 0, none⟩) x.l.length x.l.length)) ∧ TxI w x (some ⟨u', 0, none⟩) (some ⟨m', 0, none⟩) (some ⟨l', 0, none⟩) u0 u1 m0 m1 l0 l1
structure PartT (w : World) (g n k : Nat) (xs : List TxV) (lo hi : Nat → Nat) : Prop where
  c : ∀ i x, i < k → xs[i]? = some x → TxB w g (i * 4) x (lo (3 * i)) (hi (3 * i)) (lo (3 * i + 1)) (hi (3 * i + 1)) (lo (3 * i + 2)) (hi (3 * i + 2))
  e : ∀ o, o < n * 4 → ∃ v, w.cell? ⟨g, o, none⟩ = some v
  f : ∀ o, w.frozen? ⟨g, o, none⟩ = false
  ch : ∀ p q, p < q → q < 3 * k → hi p ≤ lo q
  up : ∀ p, p < 3 * k → hi p ≤ w.heap.size
  gl : ∀ p, p < 3 * k → g < lo p
theorem TxI.turned {w w' : World} {x : TxV} {ua ma la : Option Addr} {u0 u1 m0 m1 l0 l1 g : Nat} (h : TxI w x ua ma la u0 u1 m0 m1 l0 l1) (ht : Turned g (g + 1) w w') (hu : g < u0) (hm : g < m0) (hl : g < l0) : TxI w' x ua ma la u0 u1 m0 m1 l0 l1 :=
  ⟨h.u.turned ht (.inr hu), h.m.turned ht (.inr hm), h.l.turned ht (.inr hl)⟩
theorem PartT.below {w w' : World} {g n k : Nat} {xs : List TxV} {lo hi : Nat → Nat} (h : PartT w g n k xs lo hi) (hb : Below w.heap.size w w') (hg : g < w.heap.size) : PartT w' g n k xs lo hi :=
  ⟨fun i x hi hx => by
    obtain ⟨u', m', l', ⟨c0, c1, c2, c3⟩, ho⟩ := h.c i x hi hx
    exact ⟨u', m', l', ⟨(hb.cell (p := ⟨g, _, none⟩) hg).trans c0, (hb.cell (p := ⟨g, _, none⟩) hg).trans c1, (hb.cell (p := ⟨g, _, none⟩) hg).trans c2, (hb.cell (p := ⟨g, _, none⟩) hg).trans c3⟩, ho.below hb⟩,
   fun o ho => by obtain ⟨v, hv⟩ := h.e o ho; exact ⟨v, (hb.cell (p := ⟨g, _, none⟩) hg).trans hv⟩, fun o => (hb.frozen (p := ⟨g, _, none⟩) hg).trans (h.f o), h.ch, fun p hp => Nat.le_trans (h.up p hp) hb.size, h.gl⟩
/-- A function that is turned at three places. -/
def fn3 (f : Nat → Nat) (k a b c : Nat) : Nat → Nat := fun p => if p < 3 * k then f p else if p = 3 * k then a else if p = 3 * k + 1 then b else c
theorem fn3_lt {f : Nat → Nat} {k a b c p : Nat} (h : p < 3 * k) : fn3 f k a b c p = f p := by unfold fn3; rw [if_pos h]
theorem fn3_0 {f : Nat → Nat} {k a b c : Nat} : fn3 f k a b c (3 * k) = a := by unfold fn3; rw [if_neg (by omega), if_pos rfl]
theorem fn3_1 {f : Nat → Nat} {k a b c : Nat} : fn3 f k a b c (3 * k + 1) = b := by unfold fn3; rw [if_neg (by omega), if_neg (by omega), if_pos rfl]
theorem fn3_2 {f : Nat → Nat} {k a b c : Nat} : fn3 f k a b c (3 * k + 2) = c := by unfold fn3; rw [if_neg (by omega), if_neg (by omega), if_neg (by omega)]
theorem fn3_cases {k p : Nat} (h : p < 3 * (k + 1)) : p < 3 * k ∨ p = 3 * k ∨ p = 3 * k + 1 ∨ p = 3 * k + 2 := by omega
theorem PartT.step {w : World} {g n k : Nat} {xs : List TxV} {x : TxV} {lo hi : Nat → Nat} {u' m' l' u0 u1 m0 m1 l0 l1 : Nat} (h : PartT w g n k xs lo hi) (hk : k < n) (hx : xs[k]? = some x) (ho : TxI w x (some ⟨u', 0, none⟩) (some ⟨m', 0, none⟩) (some ⟨l', 0, none⟩) u0 u1 m0 m1 l0 l1) (hg : g < u0) (hh : ∀ p, p < 3 * k → hi p ≤ u0) (i0 : u0 ≤ u1) (i1 : u1 ≤ m0) (i2 : m0 ≤ m1) (i3 : m1 ≤ l0) (i4 : l0 ≤ l1) (i5 : l1 ≤ w.heap.size) : PartT (put4t w g (k * 4) x.id (.slice (some ⟨u', 0, none⟩) x.u.length x.u.length) (.slice (some ⟨m', 0, none⟩) x.m.length x.m.length) (.slice (some ⟨l', 0, none⟩) x.l.length x.l.length)) g n (k + 1) xs (fn3 lo k u0 m0 l0) (fn3 hi k u1 m1 l1) := by
  obtain ⟨v0, h0⟩ := h.e (k * 4) (by omega)
  obtain ⟨v1, h1⟩ := h.e (k * 4 + 1) (by omega)
  obtain ⟨v2, h2⟩ := h.e (k * 4 + 2) (by omega)
  obtain ⟨v3, h3⟩ := h.e (k * 4 + 3) (by omega)
  have hs : TxB (put4t w g (k * 4) x.id (.slice (some ⟨u', 0, none⟩) x.u.length x.u.length) (.slice (some ⟨m', 0, none⟩) x.m.length x.m.length) (.slice (some ⟨l', 0, none⟩) x.l.length x.l.length)) g (k * 4) x u0 u1 m0 m1 l0 l1 :=
    ⟨u', m', l', ⟨by unfold put4t; simp [go_sem, h0], by unfold put4t; simp [go_sem, h1], by unfold put4t; simp [go_sem, h2], by unfold put4t; simp [go_sem, h3]⟩, ho.turned put4t_turned (by omega) (by omega) (by omega)⟩
  refine ⟨fun i y hi' hy => ?_, fun o ho' => ?_, fun o => by rw [put4t_frozen]; exact h.f o, fun p q hpq hq => ?_, fun p hp => ?_, fun p hp => ?_⟩
  · by_cases e : i = k
    · subst e
      rw [hx] at hy
      cases hy
      rw [fn3_0, fn3_0, fn3_1, fn3_1, fn3_2, fn3_2]
      exact hs
    · have hik : i < k := by omega
      rw [fn3_lt (by omega), fn3_lt (by omega), fn3_lt (by omega), fn3_lt (by omega), fn3_lt (by omega), fn3_lt (by omega)]
      obtain ⟨u2, m2, l2, ⟨c0, c1, c2, c3⟩, ho2⟩ := h.c i y hik hy
      exact ⟨u2, m2, l2, ⟨by rw [put4t_other (by omega)]; exact c0, by rw [put4t_other (by omega)]; exact c1, by rw [put4t_other (by omega)]; exact c2, by rw [put4t_other (by omega)]; exact c3⟩, ho2.turned put4t_turned (h.gl _ (by omega)) (h.gl _ (by omega)) (h.gl _ (by omega))⟩
  · by_cases e : k * 4 ≤ o ∧ o < k * 4 + 4
    · obtain ⟨_, _, _, ⟨c0, c1, c2, c3⟩, _⟩ := hs
      have : o = k * 4 ∨ o = k * 4 + 1 ∨ o = k * 4 + 2 ∨ o = k * 4 + 3 := by omega
      rcases this with rfl | rfl | rfl | rfl
      · exact ⟨_, c0⟩
      · exact ⟨_, c1⟩
      · exact ⟨_, c2⟩
      · exact ⟨_, c3⟩
    · rw [put4t_other (by omega)]; exact h.e o ho'
  · rcases fn3_cases hq with h1 | rfl | rfl | rfl
    · rw [fn3_lt (by omega), fn3_lt h1]; exact h.ch p q hpq h1
    · rw [fn3_lt hpq, fn3_0]; exact hh p hpq
    · rw [fn3_1]
      rcases fn3_cases (k := k) (p := p) (by omega) with h1 | rfl | rfl | rfl
      · rw [fn3_lt h1]; have := hh p h1; omega
      · rw [fn3_0]; omega
      · omega
      · omega
    · rw [fn3_2]
      rcases fn3_cases (k := k) (p := p) (by omega) with h1 | rfl | rfl | rfl
      · rw [fn3_lt h1]; have := hh p h1; omega
      · rw [fn3_0]; omega
      · rw [fn3_1]; omega
      · omega
  · have hsz : (put4t w g (k * 4) x.id (.slice (some ⟨u', 0, none⟩) x.u.length x.u.length) (.slice (some ⟨m', 0, none⟩) x.m.length x.m.length) (.slice (some ⟨l', 0, none⟩) x.l.length x.l.length)).heap.size = w.heap.size := by unfold put4t; simp
    rw [hsz]
    rcases fn3_cases hp with h1 | rfl | rfl | rfl
    · rw [fn3_lt h1]; exact h.up p h1
    · rw [fn3_0]; omega
    · rw [fn3_1]; omega
    · rw [fn3_2]; omega
  · rcases fn3_cases hp with h1 | rfl | rfl | rfl
    · rw [fn3_lt h1]; exact h.gl p h1
    · rw [fn3_0]; omega
    · rw [fn3_1]; omega
    · rw [fn3_2]; omega
/-- Transactions that are read, whose locks have their room. -/
def TxRc (w : World) (a : Option Addr) (xs : List TxV) : Prop :=
  xs = [] ∨ ∃ b off, a = some ⟨b, off, none⟩ ∧ ∀ i x, xs[i]? = some x → ∃ ua ma la uc mc lc, TxAt w b (off + i * 4) x ua ma la uc mc lc ∧ x.l.length ≤ lc
theorem TxRc.rd {w : World} {a : Option Addr} {xs : List TxV} (h : TxRc w a xs) : TxRd w a xs := by
  rcases h with h | ⟨b, off, ha, hc⟩
  · exact .inl h
  · refine .inr ⟨b, off, ha, fun i x hx => ?_⟩
    obtain ⟨ua, ma, la, uc, mc, lc, h, _⟩ := hc i x hx
    exact ⟨ua, ma, la, uc, mc, lc, h⟩
theorem TxRc.below {w w' : World} {a : Option Addr} {xs : List TxV} (h : TxRc w a xs) {B : Nat} (hb : Below B w w') (hB : w.heap.size ≤ B) : TxRc w' a xs := by
  rcases h with h | ⟨b, off, ha, hc⟩
  · exact .inl h
  · refine .inr ⟨b, off, ha, fun i x hx => ?_⟩
    obtain ⟨ua, ma, la, uc, mc, lc, h, hk⟩ := hc i x hx
    exact ⟨ua, ma, la, uc, mc, lc, h.below (hb.mono hB), hk⟩
theorem TxRc.at {w : World} {a : Option Addr} {xs : List TxV} (h : TxRc w a xs) {i : Nat} {x : TxV} (hx : xs[i]? = some x) : ∃ b off ua ma la uc mc lc, a = some ⟨b, off, none⟩ ∧ TxAt w b (off + i * 4) x ua ma la uc mc lc ∧ x.l.length ≤ lc := by
  rcases h with rfl | ⟨b, off, ha, hc⟩
  · simp at hx
  · obtain ⟨ua, ma, la, uc, mc, lc, h, hk⟩ := hc i x hx
    exact ⟨b, off, ua, ma, la, uc, mc, lc, ha, h, hk⟩
/-- The four cells of a transaction at a place. -/
structure C4 (w : World) (b o : Nat) (id : Int) (ua : Option Addr) (un uc : Nat) (ma : Option Addr) (mn mc : Nat) (la : Option Addr) (ln lc : Nat) : Prop where
  c0 : w.cell? ⟨b, o, none⟩ = some (.int .i64 id)
  c1 : w.cell? ⟨b, o + 1, none⟩ = some (.slice ua un uc)
  c2 : w.cell? ⟨b, o + 2, none⟩ = some (.slice ma mn mc)
  c3 : w.cell? ⟨b, o + 3, none⟩ = some (.slice la ln lc)
theorem C4.lt {w : World} {b o : Nat} {id : Int} {ua ma la : Option Addr} {un uc mn mc ln lc : Nat} (h : C4 w b o id ua un uc ma mn mc la ln lc) : b < w.heap.size := World.block_lt_of_cell? w _ h.c0
theorem C4.below {w w' : World} {b o B : Nat} {id : Int} {ua ma la : Option Addr} {un uc mn mc ln lc : Nat} (h : C4 w b o id ua un uc ma mn mc la ln lc) (hb : Below B w w') (hl : b < B) : C4 w' b o id ua un uc ma mn mc la ln lc :=
  ⟨(hb.cell (p := ⟨b, o, none⟩) hl).trans h.c0, (hb.cell (p := ⟨b, o + 1, none⟩) hl).trans h.c1, (hb.cell (p := ⟨b, o + 2, none⟩) hl).trans h.c2, (hb.cell (p := ⟨b, o + 3, none⟩) hl).trans h.c3⟩
theorem C4.turned {w w' : World} {b o lo hi : Nat} {id : Int} {ua ma la : Option Addr} {un uc mn mc ln lc : Nat} (h : C4 w b o id ua un uc ma mn mc la ln lc) (ht : Turned lo hi w w') (hl : b < lo ∨ hi ≤ b) : C4 w' b o id ua un uc ma mn mc la ln lc :=
  ⟨ht.cell (p := ⟨b, o, none⟩) h.c0 hl, ht.cell (p := ⟨b, o + 1, none⟩) h.c1 hl, ht.cell (p := ⟨b, o + 2, none⟩) h.c2 hl, ht.cell (p := ⟨b, o + 3, none⟩) h.c3 hl⟩
/-- Transactions in memory of their own, list by list: what may be marked. -/
structure OwT (w : World) (b : Nat) (xs : List TxV) (lo hi : Nat → Nat) : Prop where
  c : ∀ i x, xs[i]? = some x → ∃ ua ma la uc mc lc, C4 w b (i * 4) x.id ua x.u.length uc ma x.m.length mc la x.l.length lc ∧ x.l.length ≤ lc ∧ TxI w x ua ma la (lo (3 * i)) (hi (3 * i)) (lo (3 * i + 1)) (hi (3 * i + 1)) (lo (3 * i + 2)) (hi (3 * i + 2))
  f : ∀ i, i < xs.length → w.frozen? ⟨b, i * 4, none⟩ = false
  out : ∀ p, p < 3 * xs.length → b < lo p ∨ hi p ≤ b
  dis : ∀ p q, p < q → q < 3 * xs.length → hi p ≤ lo q ∨ hi q ≤ lo p
theorem OwT.rc {w : World} {b : Nat} {xs : List TxV} {lo hi : Nat → Nat} (h : OwT w b xs lo hi) : TxRc w (some ⟨b, 0, none⟩) xs :=
  .inr ⟨b, 0, rfl, fun i x hx => by
    obtain ⟨ua, ma, la, uc, mc, lc, h1, h2, h3⟩ := h.c i x hx
    rw [Nat.zero_add]
    exact ⟨ua, ma, la, uc, mc, lc, ⟨h1.c0, h1.c1, h1.c2, h1.c3, h3.u.reads, h3.m.reads, h3.l.reads⟩, h2⟩⟩
theorem OwT.below {w w' : World} {b : Nat} {xs : List TxV} {lo hi : Nat → Nat} (h : OwT w b xs lo hi) (hb : Below w.heap.size w w') : OwT w' b xs lo hi :=
  ⟨fun i x hx => by
    obtain ⟨ua, ma, la, uc, mc, lc, h1, h2, h3⟩ := h.c i x hx
    exact ⟨ua, ma, la, uc, mc, lc, h1.below hb h1.lt, h2, h3.below hb⟩, fun i hi => by
      obtain ⟨_, _, _, _, _, _, h1, _⟩ := h.c i _ (List.getElem?_eq_getElem hi)
      exact (hb.frozen (p := ⟨b, _, none⟩) h1.lt).trans (h.f i hi), h.out, h.dis⟩
theorem PartT.own {w : World} {g n : Nat} {xs : List TxV} {lo hi : Nat → Nat} (h : PartT w g n n xs lo hi) (hn : xs.length = n) : OwT w g xs lo hi :=
  ⟨fun i x hx => by
    obtain ⟨u', m', l', ⟨c0, c1, c2, c3⟩, ho⟩ := h.c i x (by rw [← hn]; exact (List.getElem?_eq_some_iff.1 hx).1) hx
    exact ⟨_, _, _, _, _, _, ⟨c0, c1, c2, c3⟩, Nat.le_refl _, ho⟩, fun i _ => h.f _, fun p hp => .inl (h.gl p (by rw [← hn]; exact hp)), fun p q hpq hq => .inl (h.ch p q hpq (by rw [← hn]; exact hq))⟩

set_option maxHeartbeats 4000000 in
theorem toTxS_own (a : Option Addr) (xs : List TxV) (n c : Nat) (w : World) (hn : xs.length = n) (hm : n ≤ 1048576) (hs : ∀ x ∈ xs, TxOk 1048576 x) (hr : TxRd w a xs) :
    Calls Tryz.prog 9 #[.slice a n c] w fun e w' => e = .returned (.slice (some ⟨w.heap.size, 0, none⟩) n n) ∧ Below w.heap.size w w' ∧ ∃ lo hi, OwT w' w.heap.size xs lo hi ∧ ∀ p, p < 3 * xs.length → w.heap.size < lo p ∧ hi p ≤ w'.heap.size := by
  obtain ⟨i0, hi, hz0, hz1, hz2⟩ := infoT
  have HN : Hid (xs.length = n) := hn
  have HR : Hid (TxRd w a xs) := hr
  have HS : Hid (∀ x ∈ xs, TxOk 1048576 x) := hs
  clear hn hr hs
  go_enter Tryz.func9, Tryz.ntmps9
  go_wp2_with (at_make; refine wpList_make_full _ rfl _ _ 39 rfl w.heap.size 65 i0 (.agg #[.int .i64 0, .slice none 0 0, .slice none 0 0, .slice none 0 0]) 4 Tryz.underlying39 hi hz0 hz1 .i64 .i64 _ _ n rfl rfl rfl rfl ?c1 ?c2 (Nat.le_refl _) ?_)
  case c1 => rw [hz2]; omega
  case c2 => unfold maxLen; omega
  intro w1 hown hg
  have hB : Below w.heap.size w w1 := Below.grown (Below.refl _ _) hg (Nat.le_refl _) (fun k hk => by cases hk)
  have hlt1 : w.heap.size < w1.heap.size := (hown.lt w.heap.size (by simp [Value.ownBlock])).2
  have hP : PartT w1 w.heap.size n 0 xs (fun _ => 0) (fun _ => 0) := ⟨fun i r hi => absurd hi (Nat.not_lt_zero _), fun o ho => ⟨_, by rw [hown.cellAt o (by omega)]; exact List.getElem?_eq_getElem (by simpa [madeCells] using ho)⟩, fun o => hown.frozenAt _, fun p q _ h => by omega, fun p h => by omega, fun p h => by omega⟩
  clear hown hg hi hz0 hz1 hz2
  go_wp2_with fail
  go_loopw [4] (fun i wr => ∃ k : Nat, k ≤ n ∧ i = .int .i64 k ∧ Below w.heap.size w wr ∧ (∃ lo hi, PartT wr w.heap.size n k xs lo hi) ∧ w.heap.size < wr.heap.size) (fun i _ => n - (intOf i).toNat)
  case atStart => exact ⟨0, Nat.zero_le _, rfl, hB, ⟨_, _, hP⟩, hlt1⟩
  case round =>
    obtain ⟨k, hk, rfl, g, ⟨lo, hi', hP⟩, hlt⟩ := hrel
    clear hB hlt1
    by_cases hlt2 : k < n
    · obtain ⟨x, hx⟩ := at_ltT (xs := xs) (i := k) (by rw [HN.out]; exact hlt2)
      obtain ⟨b, off, ua, ma, la, uc, mc, lc, rfl, Z⟩ := (HR.out.below g (Nat.le_refl _)).at hx
      obtain ⟨k1, k2, k3, k4⟩ := HS.out x (List.mem_of_getElem? hx)
      have hkn : (k : Int) < (n : Int) := by omega
      have HX : Hid (xs[k]? = some x) := hx
      clear hx
      obtain ⟨id, us, ms, ls⟩ := x
      obtain ⟨c0, c1, c2, c3, hu, hmm, hll⟩ := Z
      dsimp only at c0 c1 c2 c3 hu hmm hll k1 k2 k3 k4
      have hcon := toTx_own id ua us us.length uc ma ms ms.length mc la ls ls.length lc wr rfl k1 hu rfl k3 hmm rfl k4 hll
      have HST : Hid (∀ (V : World) (u' m' l' e1 e2 e3 : Nat), PartT V w.heap.size n k xs lo hi' → TxI V ⟨id, us, ms, ls⟩ (some ⟨u', 0, none⟩) (some ⟨m', 0, none⟩) (some ⟨l', 0, none⟩) u' e1 m' e2 l' e3 → w.heap.size < u' → (∀ p, p < 3 * k → hi' p ≤ u') → u' ≤ e1 → e1 ≤ m' → m' ≤ e2 → e2 ≤ l' → l' ≤ e3 → e3 ≤ V.heap.size → ∃ lo2 hi2, PartT (put4t V w.heap.size (k * 4) id (.slice (some ⟨u', 0, none⟩) us.length us.length) (.slice (some ⟨m', 0, none⟩) ms.length ms.length) (.slice (some ⟨l', 0, none⟩) ls.length ls.length)) w.heap.size n (k + 1) xs lo2 hi2) := fun V u' m' l' e1 e2 e3 h1 h2 h3 h4 h5 h6 h7 h8 h9 h10 => by
        have h := PartT.step (x := ⟨id, us, ms, ls⟩) h1 hlt2 HX.out h2 h3 h4 h5 h6 h7 h8 h9 h10
        exact ⟨_, _, h⟩
      clear hu hmm hll k2 HX
      generalize us.length = un at c1 hcon HST k1
      generalize ms.length = mn at c2 hcon HST k3
      generalize ls.length = ln at c3 hcon HST k4
      go_wp2_with fail
      refine hcon.mono ?_
      rintro e w' ⟨u', m', l', e1, e2, e3, rfl, g', ho, q1, p1, p2, p3, p4, p5, p6⟩
      have hup := hP.up
      have hP := hP.below g' hlt
      have g2 : Below w.heap.size w w' := g.trans (g'.mono g.size)
      have hlt' : w.heap.size < w'.heap.size := by have := g'.size; omega
      have HP' : Hid (∃ lo2 hi2, PartT _ w.heap.size n (k + 1) xs lo2 hi2) := HST.out w' u' m' l' e1 e2 e3 hP ho (by omega) (fun p hp => by have := hup p hp; omega) p1 p2 p3 p4 p5 p6
      obtain ⟨v0, r0⟩ := hP.e (k * 4) (by omega)
      obtain ⟨v1, r1⟩ := hP.e (k * 4 + 1) (by omega)
      obtain ⟨v2, r2⟩ := hP.e (k * 4 + 2) (by omega)
      obtain ⟨v3, r3⟩ := hP.e (k * 4 + 3) (by omega)
      have f0 := hP.f (k * 4)
      have f1 := hP.f (k * 4 + 1)
      have f2 := hP.f (k * 4 + 2)
      have f3 := hP.f (k * 4 + 3)
      clear g g' hP c0 c1 c2 c3 hcon HST ho q1 p1 p2 p3 p4 p5 p6 hup
      go_wp2_with fail
      go_roundw
      case rel => exact ⟨k + 1, by omega, by go_num, by go_grown, HP'.out, by simp; omega⟩
      case measure => simp [intOf]; omega
    · have e : k = n := by omega
      subst e
      have hr2 := hP.own HN.out
      have hup := hP.up
      have hgl := hP.gl
      have HL : Hid (∀ p, p < 3 * xs.length → w.heap.size < lo p ∧ hi' p ≤ wr.heap.size) := fun p hp => ⟨hgl p (by rw [← HN.out]; exact hp), hup p (by rw [← HN.out]; exact hp)⟩
      clear hup hgl
      clear hP
      go_wp2_with fail
      go_ret
      exact ⟨rfl, g, lo, hi', hr2, HL.out⟩

theorem toTxS_any (a : Option Addr) (xs : List TxV) (n c : Nat) (w : World) (hn : xs.length = n) (hm : n ≤ 1048576) (hs : ∀ x ∈ xs, TxOk 1048576 x) (hr : TxRd w a xs) :
    Calls Tryz.prog 9 #[.slice a n c] w fun e w' => e = .returned (.slice (some ⟨w.heap.size, 0, none⟩) n n) ∧ Below w.heap.size w w' ∧ TxRc w' (some ⟨w.heap.size, 0, none⟩) xs :=
  (toTxS_own a xs n c w hn hm hs hr).mono fun _ _ h => by
    obtain ⟨h1, h2, lo, hi, h3, _⟩ := h
    exact ⟨h1, h2, h3.rc⟩

set_option maxHeartbeats 400000 in
theorem eqKey_same (x y : Int) (w : World) : Calls Tryz.prog 104 #[.agg #[.int .i64 x, .int .i64 y], .agg #[.int .i64 x, .int .i64 y]] w fun e w' => e = .returned (.bool true) ∧ Below w.heap.size w w' := by
  go_enter Tryz.func104, Tryz.ntmps104
  go_wp2
  go_ret
  exact ⟨rfl, by go_grown⟩

set_option maxHeartbeats 4000000 in
theorem eqInt64S_same (a a' : Option Addr) (xs : List Int) (n c d : Nat) (w : World) (hn : xs.length = n) (hm : n ≤ 9223372036854775807) (hx : Rs inE 1 w a  xs) (hy : Rs inE 1 w a'  xs) :
    Calls Tryz.prog 70 #[.slice a n c, .slice a' n d] w fun e w' => e = .returned (.bool true) ∧ Below w.heap.size w w' := by
  have HN : Hid (xs.length = n) := hn
  have HX : Hid (Rs inE 1 w a  xs) := hx
  have HY : Hid (Rs inE 1 w a'  xs) := hy
  clear hn hx hy
  go_enter Tryz.func70, Tryz.ntmps70
  go_wp2_with fail
  go_loopw [5] (fun i wr => ∃ k : Nat, k ≤ n ∧ i = .int .i64 k ∧ Below w.heap.size w wr) (fun i _ => n - (intOf i).toNat)
  case atStart => exact ⟨0, Nat.zero_le _, rfl, Below.refl _ _⟩
  case round =>
    obtain ⟨k, hk, rfl, g⟩ := hrel
    by_cases hlt : k < n
    · have hkn : (k : Int) < (n : Int) := by omega
      obtain ⟨r, hr⟩ : ∃ r, xs[k]? = some r := ⟨_, List.getElem?_eq_getElem (by rw [HN.out]; exact hlt)⟩
      obtain ⟨xb, xo, rfl, x0⟩ := (HX.out.below g (Nat.le_refl _)).num hr
      obtain ⟨yb, yo, rfl, y0⟩ := (HY.out.below g (Nat.le_refl _)).num hr
      have lx := World.block_lt_of_cell? wr _ x0
      have ly := World.block_lt_of_cell? wr _ y0
      clear hr
      go_upto_region 6 with (fail)
      refine wp_region_held_drew (S := fun V => Below wr.heap.size wr V) (by kernel_rfl) (Below.refl _ wr).drew (fun hHeld => ?_)
      generalize wr.drew = D0 at hHeld ⊢
      refine wpAnyH_take (i := 0) (v := ?v1) rfl (by kernel_rfl) (by kernel_rfl) (by kernel_rfl) (fun _ _ _ h => h) (Or.inl ⟨by kernel_rfl, ?h1⟩) hHeld ?_
      case h1 => intro u hSw; clear hSw; go_simp; try with_reducible rfl
      try simp only [List.getElem_toArray]
      try simp only [List.getElem_cons_succ]
      try simp only [List.getElem_cons_zero]
      try simp only [Act.put]
      try simp only [List.setIfInBounds_toArray]
      try simp only [List.set]
      refine wpAnyH_take (i := 1) (v := ?v2) rfl (by kernel_rfl) (by kernel_rfl) (by kernel_rfl) (fun _ _ _ h => h) (Or.inl ⟨by kernel_rfl, ?h2⟩) hHeld ?_
      case h2 => intro u hSw; clear hSw; go_simp; try with_reducible rfl
      try simp only [List.getElem_toArray]
      try simp only [List.getElem_cons_succ]
      try simp only [List.getElem_cons_zero]
      try simp only [Act.put]
      try simp only [List.setIfInBounds_toArray]
      try simp only [List.set]
      refine wpAnyH_take (i := 2) (v := ?v3) rfl (by kernel_rfl) (by kernel_rfl) (by kernel_rfl) (fun _ _ _ h => h) (Or.inl ⟨by kernel_rfl, ?h3⟩) hHeld ?_
      case h3 => intro u hSw; clear hSw; go_simp; try with_reducible rfl
      try simp only [List.getElem_toArray]
      try simp only [List.getElem_cons_succ]
      try simp only [List.getElem_cons_zero]
      try simp only [Act.put]
      try simp only [List.setIfInBounds_toArray]
      try simp only [List.set]
      refine wpAnyH_take (i := 3) (v := ?v4) rfl (by kernel_rfl) (by kernel_rfl) (by kernel_rfl) (fun _ _ _ h => h) (Or.inl ⟨by kernel_rfl, ?h4⟩) hHeld ?_
      case h4 => intro u hSw; (have x0 := (hSw.cell (p := ⟨xb, xo + k, none⟩) lx).trans x0); clear hSw; go_simp; try with_reducible rfl
      try simp only [List.getElem_toArray]
      try simp only [List.getElem_cons_succ]
      try simp only [List.getElem_cons_zero]
      try simp only [Act.put]
      try simp only [List.setIfInBounds_toArray]
      try simp only [List.set]
      refine wpAnyH_take (i := 4) (v := ?v5) rfl (by kernel_rfl) (by kernel_rfl) (by kernel_rfl) (fun _ _ _ h => h) (Or.inl ⟨by kernel_rfl, ?h5⟩) hHeld ?_
      case h5 => intro u hSw; clear hSw; go_simp; try with_reducible rfl
      try simp only [List.getElem_toArray]
      try simp only [List.getElem_cons_succ]
      try simp only [List.getElem_cons_zero]
      try simp only [Act.put]
      try simp only [List.setIfInBounds_toArray]
      try simp only [List.set]
      refine wpAnyH_take (i := 5) (v := ?v6) rfl (by kernel_rfl) (by kernel_rfl) (by kernel_rfl) (fun _ _ _ h => h) (Or.inl ⟨by kernel_rfl, ?h6⟩) hHeld ?_
      case h6 => intro u hSw; clear hSw; go_simp; try with_reducible rfl
      try simp only [List.getElem_toArray]
      try simp only [List.getElem_cons_succ]
      try simp only [List.getElem_cons_zero]
      try simp only [Act.put]
      try simp only [List.setIfInBounds_toArray]
      try simp only [List.set]
      refine wpAnyH_take (i := 6) (v := ?v7) rfl (by kernel_rfl) (by kernel_rfl) (by kernel_rfl) (fun _ _ _ h => h) (Or.inl ⟨by kernel_rfl, ?h7⟩) hHeld ?_
      case h7 => intro u hSw; clear hSw; go_simp; try with_reducible rfl
      try simp only [List.getElem_toArray]
      try simp only [List.getElem_cons_succ]
      try simp only [List.getElem_cons_zero]
      try simp only [Act.put]
      try simp only [List.setIfInBounds_toArray]
      try simp only [List.set]
      refine wpAnyH_take (i := 7) (v := ?v8) rfl (by kernel_rfl) (by kernel_rfl) (by kernel_rfl) (fun _ _ _ h => h) (Or.inl ⟨by kernel_rfl, ?h8⟩) hHeld ?_
      case h8 => intro u hSw; (have y0 := (hSw.cell (p := ⟨yb, yo + k, none⟩) ly).trans y0); clear hSw; go_simp; try with_reducible rfl
      try simp only [List.getElem_toArray]
      try simp only [List.getElem_cons_succ]
      try simp only [List.getElem_cons_zero]
      try simp only [Act.put]
      try simp only [List.setIfInBounds_toArray]
      try simp only [List.set]
      refine wpAnyH_take (i := 8) (v := ?v9) rfl (by kernel_rfl) (by kernel_rfl) (by kernel_rfl) (fun _ _ _ h => h) (Or.inl ⟨by kernel_rfl, ?h9⟩) hHeld ?_
      case h9 => intro u hSw; clear hSw; go_simp; try with_reducible rfl
      try simp only [List.getElem_toArray]
      try simp only [List.getElem_cons_succ]
      try simp only [List.getElem_cons_zero]
      try simp only [Act.put]
      try simp only [List.setIfInBounds_toArray]
      try simp only [List.set]
      refine wpAnyH_done (by kernel_rfl) ?_ _
      have g := g.trans (hHeld.mono g.size)
      clear hHeld x0 y0 lx ly
      go_wp2_with fail
      go_roundw
      case rel => exact ⟨k + 1, by omega, by go_num, g⟩
      case measure => simp [intOf]; omega
    · go_wp2_with fail
      go_ret
      exact ⟨rfl, g⟩

set_option maxHeartbeats 4000000 in
theorem eqKeyS_same (a a' : Option Addr) (xs : List K2) (n c d : Nat) (w : World) (hn : xs.length = n) (hm : n ≤ 9223372036854775807) (hx : Rs kyE 2 w a xs) (hy : Rs kyE 2 w a' xs) :
    Calls Tryz.prog 71 #[.slice a n c, .slice a' n d] w fun e w' => e = .returned (.bool true) ∧ Below w.heap.size w w' := by
  have HN : Hid (xs.length = n) := hn
  have HX : Hid (Rs kyE 2 w a xs) := hx
  have HY : Hid (Rs kyE 2 w a' xs) := hy
  clear hn hx hy
  go_enter Tryz.func71, Tryz.ntmps71
  go_wp2_with fail
  go_loopw [5] (fun i wr => ∃ k : Nat, k ≤ n ∧ i = .int .i64 k ∧ Below w.heap.size w wr) (fun i _ => n - (intOf i).toNat)
  case atStart => exact ⟨0, Nat.zero_le _, rfl, Below.refl _ _⟩
  case round =>
    obtain ⟨k, hk, rfl, g⟩ := hrel
    by_cases hlt : k < n
    · have hkn : (k : Int) < (n : Int) := by omega
      obtain ⟨r, hr⟩ : ∃ r, xs[k]? = some r := ⟨_, List.getElem?_eq_getElem (by rw [HN.out]; exact hlt)⟩
      obtain ⟨xb, xo, rfl, x0, x1⟩ := (HX.out.below g (Nat.le_refl _)).key hr
      obtain ⟨yb, yo, rfl, y0, y1⟩ := (HY.out.below g (Nat.le_refl _)).key hr
      have lx := World.block_lt_of_cell? wr _ x0
      have ly := World.block_lt_of_cell? wr _ y0
      clear hr
      obtain ⟨p, q⟩ := r
      dsimp only at x0 x1 y0 y1
      go_upto_region 6 with (fail)
      refine wp_region_held_drew (S := fun V => Below wr.heap.size wr V) (by kernel_rfl) (Below.refl _ wr).drew (fun hHeld => ?_)
      generalize wr.drew = D0 at hHeld ⊢
      refine wpAnyH_take (i := 0) (v := ?v10) rfl (by kernel_rfl) (by kernel_rfl) (by kernel_rfl) (fun _ _ _ h => h) (Or.inl ⟨by kernel_rfl, ?h10⟩) hHeld ?_
      case h10 => intro u hSw; clear hSw; go_simp; try with_reducible rfl
      try simp only [List.getElem_toArray]
      try simp only [List.getElem_cons_succ]
      try simp only [List.getElem_cons_zero]
      try simp only [Act.put]
      try simp only [List.setIfInBounds_toArray]
      try simp only [List.set]
      refine wpAnyH_take (i := 1) (v := ?v11) rfl (by kernel_rfl) (by kernel_rfl) (by kernel_rfl) (fun _ _ _ h => h) (Or.inl ⟨by kernel_rfl, ?h11⟩) hHeld ?_
      case h11 => intro u hSw; clear hSw; go_simp; try with_reducible rfl
      try simp only [List.getElem_toArray]
      try simp only [List.getElem_cons_succ]
      try simp only [List.getElem_cons_zero]
      try simp only [Act.put]
      try simp only [List.setIfInBounds_toArray]
      try simp only [List.set]
      refine wpAnyH_take (i := 2) (v := ?v12) rfl (by kernel_rfl) (by kernel_rfl) (by kernel_rfl) (fun _ _ _ h => h) (Or.inl ⟨by kernel_rfl, ?h12⟩) hHeld ?_
      case h12 => intro u hSw; clear hSw; go_simp; try with_reducible rfl
      try simp only [List.getElem_toArray]
      try simp only [List.getElem_cons_succ]
      try simp only [List.getElem_cons_zero]
      try simp only [Act.put]
      try simp only [List.setIfInBounds_toArray]
      try simp only [List.set]
      refine wpAnyH_take (i := 3) (v := ?v13) rfl (by kernel_rfl) (by kernel_rfl) (by kernel_rfl) (fun _ _ _ h => h) (Or.inl ⟨by kernel_rfl, ?h13⟩) hHeld ?_
      case h13 => intro u hSw; (have x0 := (hSw.cell (p := ⟨xb, xo + k * 2, none⟩) lx).trans x0); (have x1 := (hSw.cell (p := ⟨xb, xo + k * 2 + 1, none⟩) lx).trans x1); clear hSw; go_simp; try with_reducible rfl
      try simp only [List.getElem_toArray]
      try simp only [List.getElem_cons_succ]
      try simp only [List.getElem_cons_zero]
      try simp only [Act.put]
      try simp only [List.setIfInBounds_toArray]
      try simp only [List.set]
      refine wpAnyH_take (i := 4) (v := ?v14) rfl (by kernel_rfl) (by kernel_rfl) (by kernel_rfl) (fun _ _ _ h => h) (Or.inl ⟨by kernel_rfl, ?h14⟩) hHeld ?_
      case h14 => intro u hSw; clear hSw; go_simp; try with_reducible rfl
      try simp only [List.getElem_toArray]
      try simp only [List.getElem_cons_succ]
      try simp only [List.getElem_cons_zero]
      try simp only [Act.put]
      try simp only [List.setIfInBounds_toArray]
      try simp only [List.set]
      refine wpAnyH_take (i := 5) (v := ?v15) rfl (by kernel_rfl) (by kernel_rfl) (by kernel_rfl) (fun _ _ _ h => h) (Or.inl ⟨by kernel_rfl, ?h15⟩) hHeld ?_
      case h15 => intro u hSw; clear hSw; go_simp; try with_reducible rfl
      try simp only [List.getElem_toArray]
      try simp only [List.getElem_cons_succ]
      try simp only [List.getElem_cons_zero]
      try simp only [Act.put]
      try simp only [List.setIfInBounds_toArray]
      try simp only [List.set]
      refine wpAnyH_take (i := 6) (v := ?v16) rfl (by kernel_rfl) (by kernel_rfl) (by kernel_rfl) (fun _ _ _ h => h) (Or.inl ⟨by kernel_rfl, ?h16⟩) hHeld ?_
      case h16 => intro u hSw; clear hSw; go_simp; try with_reducible rfl
      try simp only [List.getElem_toArray]
      try simp only [List.getElem_cons_succ]
      try simp only [List.getElem_cons_zero]
      try simp only [Act.put]
      try simp only [List.setIfInBounds_toArray]
      try simp only [List.set]
      refine wpAnyH_take (i := 7) (v := ?v17) rfl (by kernel_rfl) (by kernel_rfl) (by kernel_rfl) (fun _ _ _ h => h) (Or.inl ⟨by kernel_rfl, ?h17⟩) hHeld ?_
      case h17 => intro u hSw; (have y0 := (hSw.cell (p := ⟨yb, yo + k * 2, none⟩) ly).trans y0); (have y1 := (hSw.cell (p := ⟨yb, yo + k * 2 + 1, none⟩) ly).trans y1); clear hSw; go_simp; try with_reducible rfl
      try simp only [List.getElem_toArray]
      try simp only [List.getElem_cons_succ]
      try simp only [List.getElem_cons_zero]
      try simp only [Act.put]
      try simp only [List.setIfInBounds_toArray]
      try simp only [List.set]
      refine wpAnyH_ready (rs := [8]) (by kernel_rfl) (by simp) ?_
      refine AllReadyH.cons rfl (fun K hK => ?_) AllReadyH.nil
      go_simp
      go_wp2_with (go_at_call 104; refine (eqKey_same p q _).mono ?_; rintro e U1 ⟨rfl, gg⟩)
      refine hK.out _ _ (hHeld.trans (gg.mono hHeld.size)) (fun hHeld => ?_)
      clear hK K
      clear gg
      try simp only [Act.put]
      try simp only [List.setIfInBounds_toArray]
      try simp only [List.set]
      refine wpAnyH_take (i := 9) (v := ?v18) rfl (by kernel_rfl) (by kernel_rfl) (by kernel_rfl) (fun _ _ _ h => h) (Or.inl ⟨by kernel_rfl, ?h18⟩) hHeld ?_
      case h18 => intro u hSw; clear hSw; go_simp; try with_reducible rfl
      try simp only [List.getElem_toArray]
      try simp only [List.getElem_cons_succ]
      try simp only [List.getElem_cons_zero]
      try simp only [Act.put]
      try simp only [List.setIfInBounds_toArray]
      try simp only [List.set]
      refine wpAnyH_done (by kernel_rfl) ?_ _
      have g := g.trans (hHeld.mono g.size)
      clear hHeld x0 y0 x1 y1 lx ly
      go_wp2_with fail
      go_roundw
      case rel => exact ⟨k + 1, by omega, by go_num, g⟩
      case measure => simp [intOf]; omega
    · go_wp2_with fail
      go_ret
      exact ⟨rfl, g⟩

set_option maxHeartbeats 2000000 in
theorem eqTx_same (id : Int) (au bu am bm al bl : Option Addr) (us : List Chg) (ms : List Int) (ls : List K2) (un mn ln auc buc amc bmc alc blc : Nat) (w : World) (hu : us.length = un) (hun : un ≤ 9223372036854775807) (hm : ms.length = mn) (hmn : mn ≤ 9223372036854775807) (hl : ls.length = ln) (hln : ln ≤ 9223372036854775807) (ru : Rs chE 10 w au us) (ru' : Rs chE 10 w bu us) (rm : Rs inE 1 w am ms) (rm' : Rs inE 1 w bm ms) (rl : Rs kyE 2 w al ls) (rl' : Rs kyE 2 w bl ls) :
    Calls Tryz.prog 34 #[.agg #[.int .i64 id, .slice au un auc, .slice am mn amc, .slice al ln alc], .agg #[.int .i64 id, .slice bu un buc, .slice bm mn bmc, .slice bl ln blc]] w fun e w' => e = .returned (.bool true) ∧ Below w.heap.size w w' := by
  have HU : Hid (∀ W, Below w.heap.size w W → Calls Tryz.prog 69 #[.slice au un auc, .slice bu un buc] W fun e w' => e = .returned (.bool true) ∧ Below W.heap.size W w') := fun W hW => eqChangeS_same au bu us un auc buc W hu hun (ru.below hW (Nat.le_refl _)) (ru'.below hW (Nat.le_refl _))
  have HM : Hid (∀ W, Below w.heap.size w W → Calls Tryz.prog 70 #[.slice am mn amc, .slice bm mn bmc] W fun e w' => e = .returned (.bool true) ∧ Below W.heap.size W w') := fun W hW => eqInt64S_same am bm ms mn amc bmc W hm hmn (rm.below hW (Nat.le_refl _)) (rm'.below hW (Nat.le_refl _))
  have HL : Hid (∀ W, Below w.heap.size w W → Calls Tryz.prog 71 #[.slice al ln alc, .slice bl ln blc] W fun e w' => e = .returned (.bool true) ∧ Below W.heap.size W w') := fun W hW => eqKeyS_same al bl ls ln alc blc W hl hln (rl.below hW (Nat.le_refl _)) (rl'.below hW (Nat.le_refl _))
  clear hu hm hl ru ru' rm rm' rl rl'
  go_enter Tryz.func34, Tryz.ntmps34
  go_upto_region 1 with (fail)
  generalize hY : World.alloc _ _ = Y
  have g : Below w.heap.size w Y := by rw [← hY]; go_grown
  have Z1 : T4 Y w.heap.size id au un auc am mn amc al ln alc := by rw [← hY]; exact ⟨by simp [go_sem], by simp [go_sem], by simp [go_sem], by simp [go_sem]⟩
  have Z2 : T4 Y (w.heap.size + 1) id bu un buc bm mn bmc bl ln blc := by rw [← hY]; exact ⟨by simp [go_sem], by simp [go_sem], by simp [go_sem], by simp [go_sem]⟩
  clear hY
  obtain ⟨b1, hb1⟩ : ∃ b, w.heap.size = b := ⟨_, rfl⟩
  obtain ⟨b2, hb2⟩ : ∃ b, w.heap.size + 1 = b := ⟨_, rfl⟩
  rw [hb2] at Z2 ⊢
  rw [hb1] at Z1
  simp only [hb1]
  rw [hb1] at hb2
  have HB : Hid (w.heap.size = b1) := hb1
  clear hb1 hb2
  have HZ : Hid (∀ W, Below Y.heap.size Y W → T4 W b1 id au un auc am mn amc al ln alc ∧ T4 W b2 id bu un buc bm mn bmc bl ln blc) := fun W hW => ⟨Z1.below hW Z1.lt, Z2.below hW Z2.lt⟩
  clear Z1 Z2
  obtain ⟨⟨x0, x1, x2, x3⟩, ⟨y0, y1, y2, y3⟩⟩ := HZ.out Y (Below.refl _ _)
  go_wp2_with fail
  refine (HU.out Y g).mono ?_
  rintro e w1 ⟨rfl, g1⟩
  clear x0 x1 x2 x3 y0 y1 y2 y3
  obtain ⟨⟨x0, x1, x2, x3⟩, ⟨y0, y1, y2, y3⟩⟩ := HZ.out w1 g1
  go_wp2_with fail
  refine (HM.out w1 (g.trans (g1.mono g.size))).mono ?_
  rintro e w2 ⟨rfl, g2⟩
  have g2 := g1.trans (g2.mono g1.size)
  clear x0 x1 x2 x3 y0 y1 y2 y3 g1
  obtain ⟨⟨x0, x1, x2, x3⟩, ⟨y0, y1, y2, y3⟩⟩ := HZ.out w2 g2
  go_wp2_with fail
  refine (HL.out w2 (g.trans (g2.mono g.size))).mono ?_
  rintro e w3 ⟨rfl, g3⟩
  have g3 := g2.trans (g3.mono g2.size)
  clear x0 x1 x2 x3 y0 y1 y2 y3 g2
  go_wp2_with fail
  go_ret
  exact ⟨rfl, g.trans (g3.mono g.size)⟩

set_option maxHeartbeats 4000000 in
theorem eqTxS_same (a a' : Option Addr) (xs : List TxV) (n c d : Nat) (w : World) (hn : xs.length = n) (hs : ∀ x ∈ xs, TxOk 1048576 x) (hm : n ≤ 9223372036854775807) (hx : TxRd w a xs) (hy : TxRd w a' xs) :
    Calls Tryz.prog 14 #[.slice a n c, .slice a' n d] w fun e w' => e = .returned (.bool true) ∧ Below w.heap.size w w' := by
  have HN : Hid (xs.length = n) := hn
  have HX : Hid (TxRd w a xs) := hx
  have HY : Hid (TxRd w a' xs) := hy
  have HS : Hid (∀ x ∈ xs, TxOk 1048576 x) := hs
  clear hn hx hy hs
  go_enter Tryz.func14, Tryz.ntmps14
  go_wp2_with fail
  go_loopw [5] (fun i wr => ∃ k : Nat, k ≤ n ∧ i = .int .i64 k ∧ Below w.heap.size w wr) (fun i _ => n - (intOf i).toNat)
  case atStart => exact ⟨0, Nat.zero_le _, rfl, Below.refl _ _⟩
  case round =>
    obtain ⟨k, hk, rfl, g⟩ := hrel
    by_cases hlt : k < n
    · have hkn : (k : Int) < (n : Int) := by omega
      obtain ⟨r, hr⟩ : ∃ r, xs[k]? = some r := ⟨_, List.getElem?_eq_getElem (by rw [HN.out]; exact hlt)⟩
      have hok := HS.out r (List.mem_of_getElem? hr)
      obtain ⟨xb, xo, au, am, al, auc, amc, alc, rfl, ⟨x0, x1, x2, x3, xu, xm, xl⟩⟩ := (HX.out.below g (Nat.le_refl _)).at hr
      obtain ⟨yb, yo, bu, bm, bl, buc, bmc, blc, rfl, ⟨y0, y1, y2, y3, yu, ym, yl⟩⟩ := (HY.out.below g (Nat.le_refl _)).at hr
      have lx := World.block_lt_of_cell? wr _ x0
      have ly := World.block_lt_of_cell? wr _ y0
      clear hr
      obtain ⟨id, us, ms, ls⟩ := r
      obtain ⟨k1, -, k3, k4⟩ := hok
      dsimp only at x0 x1 x2 x3 xu xm xl y0 y1 y2 y3 yu ym yl k1 k3 k4
      have HE : Hid (∀ W, Below wr.heap.size wr W → Calls Tryz.prog 34 #[.agg #[.int .i64 id, .slice au us.length auc, .slice am ms.length amc, .slice al ls.length alc], .agg #[.int .i64 id, .slice bu us.length buc, .slice bm ms.length bmc, .slice bl ls.length blc]] W fun e w' => e = .returned (.bool true) ∧ Below W.heap.size W w') := fun W hW => eqTx_same id au bu am bm al bl us ms ls _ _ _ auc buc amc bmc alc blc W rfl (by omega) rfl (by omega) rfl (by omega) (xu.below hW (Nat.le_refl _)) (yu.below hW (Nat.le_refl _)) (xm.below hW (Nat.le_refl _)) (ym.below hW (Nat.le_refl _)) (xl.below hW (Nat.le_refl _)) (yl.below hW (Nat.le_refl _))
      clear xu xm xl yu ym yl
      generalize us.length = un at x1 y1 HE k1
      generalize ms.length = mn at x2 y2 HE k3
      generalize ls.length = ln at x3 y3 HE k4
      go_upto_region 6 with (fail)
      refine wp_region_held_drew (S := fun V => Below wr.heap.size wr V) (by kernel_rfl) (Below.refl _ wr).drew (fun hHeld => ?_)
      generalize wr.drew = D0 at hHeld ⊢
      refine wpAnyH_take (i := 0) (v := ?v19) rfl (by kernel_rfl) (by kernel_rfl) (by kernel_rfl) (fun _ _ _ h => h) (Or.inl ⟨by kernel_rfl, ?h19⟩) hHeld ?_
      case h19 => intro u hSw; clear hSw; go_simp; try with_reducible rfl
      try simp only [List.getElem_toArray]
      try simp only [List.getElem_cons_succ]
      try simp only [List.getElem_cons_zero]
      try simp only [Act.put]
      try simp only [List.setIfInBounds_toArray]
      try simp only [List.set]
      refine wpAnyH_take (i := 1) (v := ?v20) rfl (by kernel_rfl) (by kernel_rfl) (by kernel_rfl) (fun _ _ _ h => h) (Or.inl ⟨by kernel_rfl, ?h20⟩) hHeld ?_
      case h20 => intro u hSw; clear hSw; go_simp; try with_reducible rfl
      try simp only [List.getElem_toArray]
      try simp only [List.getElem_cons_succ]
      try simp only [List.getElem_cons_zero]
      try simp only [Act.put]
      try simp only [List.setIfInBounds_toArray]
      try simp only [List.set]
      refine wpAnyH_take (i := 2) (v := ?v21) rfl (by kernel_rfl) (by kernel_rfl) (by kernel_rfl) (fun _ _ _ h => h) (Or.inl ⟨by kernel_rfl, ?h21⟩) hHeld ?_
      case h21 => intro u hSw; clear hSw; go_simp; try with_reducible rfl
      try simp only [List.getElem_toArray]
      try simp only [List.getElem_cons_succ]
      try simp only [List.getElem_cons_zero]
      try simp only [Act.put]
      try simp only [List.setIfInBounds_toArray]
      try simp only [List.set]
      refine wpAnyH_take (i := 3) (v := ?v22) rfl (by kernel_rfl) (by kernel_rfl) (by kernel_rfl) (fun _ _ _ h => h) (Or.inl ⟨by kernel_rfl, ?h22⟩) hHeld ?_
      case h22 => intro u hSw; (have x0 := (hSw.cell (p := ⟨xb, xo + k * 4, none⟩) lx).trans x0); (have x1 := (hSw.cell (p := ⟨xb, xo + k * 4 + 1, none⟩) lx).trans x1); (have x2 := (hSw.cell (p := ⟨xb, xo + k * 4 + 2, none⟩) lx).trans x2); (have x3 := (hSw.cell (p := ⟨xb, xo + k * 4 + 3, none⟩) lx).trans x3); clear hSw; go_simp; try with_reducible rfl
      try simp only [List.getElem_toArray]
      try simp only [List.getElem_cons_succ]
      try simp only [List.getElem_cons_zero]
      try simp only [Act.put]
      try simp only [List.setIfInBounds_toArray]
      try simp only [List.set]
      refine wpAnyH_take (i := 4) (v := ?v23) rfl (by kernel_rfl) (by kernel_rfl) (by kernel_rfl) (fun _ _ _ h => h) (Or.inl ⟨by kernel_rfl, ?h23⟩) hHeld ?_
      case h23 => intro u hSw; clear hSw; go_simp; try with_reducible rfl
      try simp only [List.getElem_toArray]
      try simp only [List.getElem_cons_succ]
      try simp only [List.getElem_cons_zero]
      try simp only [Act.put]
      try simp only [List.setIfInBounds_toArray]
      try simp only [List.set]
      refine wpAnyH_take (i := 5) (v := ?v24) rfl (by kernel_rfl) (by kernel_rfl) (by kernel_rfl) (fun _ _ _ h => h) (Or.inl ⟨by kernel_rfl, ?h24⟩) hHeld ?_
      case h24 => intro u hSw; clear hSw; go_simp; try with_reducible rfl
      try simp only [List.getElem_toArray]
      try simp only [List.getElem_cons_succ]
      try simp only [List.getElem_cons_zero]
      try simp only [Act.put]
      try simp only [List.setIfInBounds_toArray]
      try simp only [List.set]
      refine wpAnyH_take (i := 6) (v := ?v25) rfl (by kernel_rfl) (by kernel_rfl) (by kernel_rfl) (fun _ _ _ h => h) (Or.inl ⟨by kernel_rfl, ?h25⟩) hHeld ?_
      case h25 => intro u hSw; clear hSw; go_simp; try with_reducible rfl
      try simp only [List.getElem_toArray]
      try simp only [List.getElem_cons_succ]
      try simp only [List.getElem_cons_zero]
      try simp only [Act.put]
      try simp only [List.setIfInBounds_toArray]
      try simp only [List.set]
      refine wpAnyH_take (i := 7) (v := ?v26) rfl (by kernel_rfl) (by kernel_rfl) (by kernel_rfl) (fun _ _ _ h => h) (Or.inl ⟨by kernel_rfl, ?h26⟩) hHeld ?_
      case h26 => intro u hSw; (have y0 := (hSw.cell (p := ⟨yb, yo + k * 4, none⟩) ly).trans y0); (have y1 := (hSw.cell (p := ⟨yb, yo + k * 4 + 1, none⟩) ly).trans y1); (have y2 := (hSw.cell (p := ⟨yb, yo + k * 4 + 2, none⟩) ly).trans y2); (have y3 := (hSw.cell (p := ⟨yb, yo + k * 4 + 3, none⟩) ly).trans y3); clear hSw; go_simp; try with_reducible rfl
      try simp only [List.getElem_toArray]
      try simp only [List.getElem_cons_succ]
      try simp only [List.getElem_cons_zero]
      try simp only [Act.put]
      try simp only [List.setIfInBounds_toArray]
      try simp only [List.set]
      refine wpAnyH_ready (rs := [8]) (by kernel_rfl) (by simp) ?_
      refine AllReadyH.cons rfl (fun K hK => ?_) AllReadyH.nil
      go_simp
      go_wp2_with (go_at_call 34; refine (HE.out _ hHeld).mono ?_; rintro e U1 ⟨rfl, gg⟩)
      refine hK.out _ _ (hHeld.trans (gg.mono hHeld.size)) (fun hHeld => ?_)
      clear hK K
      clear gg
      try simp only [Act.put]
      try simp only [List.setIfInBounds_toArray]
      try simp only [List.set]
      refine wpAnyH_take (i := 9) (v := ?v27) rfl (by kernel_rfl) (by kernel_rfl) (by kernel_rfl) (fun _ _ _ h => h) (Or.inl ⟨by kernel_rfl, ?h27⟩) hHeld ?_
      case h27 => intro u hSw; clear hSw; go_simp; try with_reducible rfl
      try simp only [List.getElem_toArray]
      try simp only [List.getElem_cons_succ]
      try simp only [List.getElem_cons_zero]
      try simp only [Act.put]
      try simp only [List.setIfInBounds_toArray]
      try simp only [List.set]
      refine wpAnyH_done (by kernel_rfl) ?_ _
      have g := g.trans (hHeld.mono g.size)
      clear hHeld x0 y0 x1 y1 x2 y2 x3 y3 lx ly
      go_wp2_with fail
      go_roundw
      case rel => exact ⟨k + 1, by omega, by go_num, g⟩
      case measure => simp [intOf]; omega
    · go_wp2_with fail
      go_ret
      exact ⟨rfl, g⟩

end Go.Proofs.YtpjlpnaamkbicaaGreatDoor
