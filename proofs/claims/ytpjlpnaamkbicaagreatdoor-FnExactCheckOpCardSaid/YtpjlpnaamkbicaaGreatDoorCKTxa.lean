/-
  Transactions in memory: counted, made one's own, compared.
-/
import Derived.Test.YtpjlpnaamkbicaaGreatDoorCKCht
import Derived.Deep.RegionHeld

namespace Go.Proofs.YtpjlpnaamkbicaaGreatDoor
open Go.RowKit Go.Maps
set_option linter.unusedVariables false
set_option maxRecDepth 20000

/-- A key; a number; a transaction: its number, what it turned, its marks, its locks. -/
structure K2 where
  x : Int
  y : Int
def kyE (k : K2) : List Value := [.int .i64 k.x, .int .i64 k.y]
def inE (i : Int) : List Value := [.int .i64 i]
theorem kyE_len (k : K2) : (kyE k).length = 2 := rfl
theorem inE_len (i : Int) : (inE i).length = 1 := rfl
structure TxV where
  id : Int
  u : List Chg
  m : List Int
  l : List K2
theorem Rs.key {w : World} {a : Option Addr} {xs : List K2} (h : Rs kyE 2 w a xs) {i : Nat} {x : K2} (hx : xs[i]? = some x) : ∃ b off, a = some ⟨b, off, none⟩ ∧ w.cell? ⟨b, off + i * 2, none⟩ = some (.int .i64 x.x) ∧ w.cell? ⟨b, off + i * 2 + 1, none⟩ = some (.int .i64 x.y) := by
  rcases h with rfl | ⟨b, off, ha, hc⟩
  · simp at hx
  · exact ⟨b, off, ha, hc i x hx 0 _ rfl, hc i x hx 1 _ rfl⟩
theorem Rs.num {w : World} {a : Option Addr} {xs : List Int} (h : Rs inE 1 w a xs) {i : Nat} {x : Int} (hx : xs[i]? = some x) : ∃ b off, a = some ⟨b, off, none⟩ ∧ w.cell? ⟨b, off + i, none⟩ = some (.int .i64 x) := by
  rcases h with rfl | ⟨b, off, ha, hc⟩
  · simp at hx
  · have := hc i x hx 0 _ rfl
    rw [Nat.mul_one, Nat.add_zero] at this
    exact ⟨b, off, ha, this⟩
structure TxAt (w : World) (b o : Nat) (x : TxV) (ua ma la : Option Addr) (uc mc lc : Nat) : Prop where
  c0 : w.cell? ⟨b, o, none⟩ = some (.int .i64 x.id)
  c1 : w.cell? ⟨b, o + 1, none⟩ = some (.slice ua x.u.length uc)
  c2 : w.cell? ⟨b, o + 2, none⟩ = some (.slice ma x.m.length mc)
  c3 : w.cell? ⟨b, o + 3, none⟩ = some (.slice la x.l.length lc)
  u : Rs chE 10 w ua x.u
  m : Rs inE 1 w ma x.m
  l : Rs kyE 2 w la x.l
theorem TxAt.lt {w : World} {b o : Nat} {x : TxV} {ua ma la : Option Addr} {uc mc lc : Nat} (h : TxAt w b o x ua ma la uc mc lc) : b < w.heap.size := World.block_lt_of_cell? w _ h.c0
theorem TxAt.below {w w' : World} {b o : Nat} {x : TxV} {ua ma la : Option Addr} {uc mc lc : Nat} (h : TxAt w b o x ua ma la uc mc lc) (hb : Below w.heap.size w w') : TxAt w' b o x ua ma la uc mc lc :=
  ⟨(hb.cell (p := ⟨b, o, none⟩) h.lt).trans h.c0, (hb.cell (p := ⟨b, o + 1, none⟩) h.lt).trans h.c1, (hb.cell (p := ⟨b, o + 2, none⟩) h.lt).trans h.c2, (hb.cell (p := ⟨b, o + 3, none⟩) h.lt).trans h.c3, h.u.below hb (Nat.le_refl _), h.m.below hb (Nat.le_refl _), h.l.below hb (Nat.le_refl _)⟩
def TxRd (w : World) (a : Option Addr) (xs : List TxV) : Prop :=
  xs = [] ∨ ∃ b off, a = some ⟨b, off, none⟩ ∧ ∀ i x, xs[i]? = some x → ∃ ua ma la uc mc lc, TxAt w b (off + i * 4) x ua ma la uc mc lc
theorem TxRd.below {w w' : World} {a : Option Addr} {xs : List TxV} (h : TxRd w a xs) {B : Nat} (hb : Below B w w') (hB : w.heap.size ≤ B) : TxRd w' a xs := by
  rcases h with h | ⟨b, off, ha, hc⟩
  · exact .inl h
  · refine .inr ⟨b, off, ha, fun i x hx => ?_⟩
    obtain ⟨ua, ma, la, uc, mc, lc, h⟩ := hc i x hx
    exact ⟨ua, ma, la, uc, mc, lc, h.below (hb.mono hB)⟩
theorem TxRd.at {w : World} {a : Option Addr} {xs : List TxV} (h : TxRd w a xs) {i : Nat} {x : TxV} (hx : xs[i]? = some x) : ∃ b off ua ma la uc mc lc, a = some ⟨b, off, none⟩ ∧ TxAt w b (off + i * 4) x ua ma la uc mc lc := by
  rcases h with rfl | ⟨b, off, ha, hc⟩
  · simp at hx
  · obtain ⟨ua, ma, la, uc, mc, lc, h⟩ := hc i x hx
    exact ⟨b, off, ua, ma, la, uc, mc, lc, ha, h⟩
/-- What came in and is not too much: lengths, and the texts of changes. -/
def TxOk (m : Nat) (x : TxV) : Prop := x.u.length ≤ m ∧ (∀ c ∈ x.u, c.b.s.size ≤ m ∧ c.a.s.size ≤ m) ∧ x.m.length ≤ m ∧ x.l.length ≤ m

set_option maxHeartbeats 400000 in
theorem szInt64S_any (a : Option Addr) (n c : Nat) (k : Int) (w : World) (hn : n ≤ 9223372036854775807) (hk0 : 0 ≤ k) (hk : k ≤ 1048576) :
    Calls Tryz.prog 36 #[.slice a n c, .int .i64 k] w fun e w' => (∃ r : Int, e = .returned (.int .i64 r) ∧ r ≤ 1048576 ∧ (0 ≤ r → n ≤ 1048576)) ∧ w' = w := by
  by_cases h : k < n
  · have d : (k - (n : Int) < 0) := by omega
    go_enter Tryz.func36, Tryz.ntmps36
    go_wp2_with fail
    go_ret
    exact ⟨⟨-1, rfl, by omega, by omega⟩, rfl⟩
  · have d : ¬ (k - (n : Int) < 0) := by omega
    go_enter Tryz.func36, Tryz.ntmps36
    go_wp2_with fail
    go_ret
    exact ⟨⟨_, rfl, by omega, fun _ => by omega⟩, rfl⟩

set_option maxHeartbeats 400000 in
theorem szKeyS_any (a : Option Addr) (n c : Nat) (k : Int) (w : World) (hn : n ≤ 9223372036854775807) (hk0 : 0 ≤ k) (hk : k ≤ 1048576) :
    Calls Tryz.prog 37 #[.slice a n c, .int .i64 k] w fun e w' => (∃ r : Int, e = .returned (.int .i64 r) ∧ r ≤ 1048576 ∧ (0 ≤ r → n ≤ 1048576)) ∧ w' = w := by
  by_cases h : k < n
  · have d : (k - (n : Int) < 0) := by omega
    go_enter Tryz.func37, Tryz.ntmps37
    go_wp2_with fail
    go_ret
    exact ⟨⟨-1, rfl, by omega, by omega⟩, rfl⟩
  · have d : ¬ (k - (n : Int) < 0) := by omega
    go_enter Tryz.func37, Tryz.ntmps37
    go_wp2_with fail
    go_ret
    exact ⟨⟨_, rfl, by omega, fun _ => by omega⟩, rfl⟩

/-- Four cells of a transaction. -/
structure T4 (w : World) (b : Nat) (id : Int) (ua : Option Addr) (un uc : Nat) (ma : Option Addr) (mn mc : Nat) (la : Option Addr) (ln lc : Nat) : Prop where
  c0 : w.cell? ⟨b, 0, none⟩ = some (.int .i64 id)
  c1 : w.cell? ⟨b, 1, none⟩ = some (.slice ua un uc)
  c2 : w.cell? ⟨b, 2, none⟩ = some (.slice ma mn mc)
  c3 : w.cell? ⟨b, 3, none⟩ = some (.slice la ln lc)
theorem T4.lt {w : World} {b : Nat} {id : Int} {ua ma la : Option Addr} {un uc mn mc ln lc : Nat} (h : T4 w b id ua un uc ma mn mc la ln lc) : b < w.heap.size := World.block_lt_of_cell? w _ h.c0
theorem T4.below {w w' : World} {b B : Nat} {id : Int} {ua ma la : Option Addr} {un uc mn mc ln lc : Nat} (h : T4 w b id ua un uc ma mn mc la ln lc) (hb : Below B w w') (hl : b < B) : T4 w' b id ua un uc ma mn mc la ln lc :=
  ⟨(hb.cell (p := ⟨b, 0, none⟩) hl).trans h.c0, (hb.cell (p := ⟨b, 1, none⟩) hl).trans h.c1, (hb.cell (p := ⟨b, 2, none⟩) hl).trans h.c2, (hb.cell (p := ⟨b, 3, none⟩) hl).trans h.c3⟩

set_option maxHeartbeats 1000000 in
theorem szTx_any (id : Int) (ua : Option Addr) (us : List Chg) (un uc : Nat) (ma : Option Addr) (mn mc : Nat) (la : Option Addr) (ln lc : Nat) (k : Int) (w : World) (hu : us.length = un) (hum : un ≤ 9223372036854775807) (hus : ∀ x ∈ us, x.b.s.size ≤ maxLen ∧ x.a.s.size ≤ maxLen) (hr : Rs chE 10 w ua us) (hmn : mn ≤ 9223372036854775807) (hln : ln ≤ 9223372036854775807) (hk0 : 0 ≤ k) (hk : k ≤ 1048576) :
    Calls Tryz.prog 16 #[.agg #[.int .i64 id, .slice ua un uc, .slice ma mn mc, .slice la ln lc], .int .i64 k] w fun e w' => (∃ r : Int, e = .returned (.int .i64 r) ∧ r ≤ 1048576 ∧ (0 ≤ r → un ≤ 1048576 ∧ (∀ x ∈ us, x.b.s.size ≤ 1048576 ∧ x.a.s.size ≤ 1048576) ∧ mn ≤ 1048576 ∧ ln ≤ 1048576)) ∧ Below w.heap.size w w' := by
  go_enter Tryz.func16, Tryz.ntmps16
  go_upto_region 1 with (fail)
  generalize hY : World.alloc _ _ = Y
  have gY : Below w.heap.size w Y := by rw [← hY]; go_grown
  have hc : T4 Y w.heap.size id ua un uc ma mn mc la ln lc := by rw [← hY]; exact ⟨by simp [go_sem], by simp [go_sem], by simp [go_sem], by simp [go_sem]⟩
  clear hY
  have hsz := szChangeS_any ua us un uc Y k hu hum hus (hr.below gY (Nat.le_refl _)) hk0 hk
  have hlt := hc.lt
  obtain ⟨c0, c1, c2, c3⟩ := hc
  go_wp2_with fail
  refine hsz.mono ?_
  rintro e w1 ⟨⟨r, rfl, hr1, hl⟩, g1⟩
  have hc : T4 w1 w.heap.size id ua un uc ma mn mc la ln lc := T4.below (w := Y) ⟨c0, c1, c2, c3⟩ g1 hlt
  have g := gY.trans (g1.mono gY.size)
  clear hsz c0 c1 c2 c3 g1 gY
  obtain ⟨c0, c1, c2, c3⟩ := hc
  by_cases h0 : r < 0
  · go_wp2_with fail
    go_ret
    exact ⟨⟨-1, rfl, by omega, by omega⟩, g⟩
  have h0' : ¬ r < 0 := h0
  obtain ⟨hu1, HU2⟩ := hl (by omega)
  clear hl
  go_wp2_with fail
  refine (szInt64S_any ma mn mc r _ hmn (by omega) hr1).mono ?_
  rintro e w2 ⟨⟨r2, rfl, hr2, hl⟩, hw⟩
  subst w2
  by_cases h2 : r2 < 0
  · go_wp2_with fail
    go_ret
    exact ⟨⟨-1, rfl, by omega, by omega⟩, g⟩
  have h2' : ¬ r2 < 0 := h2
  have hm1 := hl (by omega)
  clear hl
  go_wp2_with fail
  refine (szKeyS_any la ln lc r2 _ hln (by omega) hr2).mono ?_
  rintro e w2 ⟨⟨r3, rfl, hr3, hl⟩, hw⟩
  subst w2
  by_cases h3 : r3 < 0
  · go_wp2_with fail
    go_ret
    exact ⟨⟨-1, rfl, by omega, by omega⟩, g⟩
  have h3' : ¬ r3 < 0 := h3
  have hl1 := hl (by omega)
  clear hl
  go_wp2_with fail
  go_ret
  exact ⟨⟨r3, rfl, hr3, fun _ => ⟨hu1, HU2, hm1, hl1⟩⟩, g⟩

/-- Transactions that came in. -/
structure IsTxs (w : World) (a : Option Addr) (n : Nat) (xs : List TxV) : Prop where
  rd : TxRd w a xs
  eq : xs.length = n
  ln : n ≤ 9223372036854775807
  ok : ∀ x ∈ xs, TxOk maxLen x
theorem at_ltT {xs : List TxV} {i : Nat} (h : i < xs.length) : ∃ r, xs[i]? = some r := ⟨xs[i], List.getElem?_eq_getElem h⟩

set_option maxHeartbeats 2000000 in
theorem szTxS_any (a : Option Addr) (xs : List TxV) (n c : Nat) (w : World) (k : Int) (h : IsTxs w a n xs) (hk0 : 0 ≤ k) (hk : k ≤ 1048576) :
    Calls Tryz.prog 5 #[.slice a n c, .int .i64 k] w fun e w' => (∃ r : Int, e = .returned (.int .i64 r) ∧ r ≤ 1048576 ∧ (0 ≤ r → n ≤ 1048576 ∧ ∀ x ∈ xs, TxOk 1048576 x)) ∧ Below w.heap.size w w' := by
  obtain ⟨hr, hn, hm, hs⟩ := h
  have hml : maxLen = 9223372036854775807 := by decide
  by_cases h : k < n
  · have d : (k - (n : Int) < 0) := by omega
    clear hml
    go_enter Tryz.func5, Tryz.ntmps5
    go_wp2_with fail
    go_ret
    exact ⟨⟨-1, rfl, by omega, by omega⟩, Below.refl _ _⟩
  have d : ¬ (k - (n : Int) < 0) := by omega
  have HR : Hid (∀ W, Below w.heap.size w W → TxRd W a xs) := fun W hW => hr.below hW (Nat.le_refl _)
  have HS : Hid (∀ x ∈ xs, TxOk 9223372036854775807 x) := by rw [hml] at hs; exact hs
  have HN : Hid (xs.length = n) := hn
  have HML : Hid (maxLen = 9223372036854775807) := hml
  clear hn hs hr hml
  go_enter Tryz.func5, Tryz.ntmps5
  go_wp2_with fail
  go_loopw [5, 1] (fun i l wr => ∃ (j : Nat) (m : Int), j ≤ n ∧ i = .int .i64 j ∧ l = .int .i64 m ∧ 0 ≤ m ∧ m ≤ 1048576 ∧ Hid (∀ x ∈ xs.take j, TxOk 1048576 x) ∧ Below w.heap.size w wr) (fun i _ _ => n - (intOf i).toNat)
  case atStart => exact ⟨0, _, Nat.zero_le _, rfl, rfl, by omega, by omega, fun x hx => by simp at hx, Below.refl _ _⟩
  case round =>
    obtain ⟨j, m, hj, rfl, rfl, hm0, hm1, hall, g⟩ := hrel
    by_cases hlt : j < n
    · obtain ⟨x, hx⟩ := at_ltT (xs := xs) (i := j) (by rw [HN.out]; exact hlt)
      obtain ⟨b, off, ua, ma, la, uc, mc, lc, rfl, Z⟩ := (HR.out wr g).at hx
      have hjn : (j : Int) < (n : Int) := by omega
      have hok := HS.out x (List.mem_of_getElem? hx)
      have HT : Hid (xs.take (j + 1) = xs.take j ++ [x]) := take_snoc hx
      clear hx
      obtain ⟨id, us, ms, ls⟩ := x
      obtain ⟨c0, c1, c2, c3, hu, hmm, hll⟩ := Z
      obtain ⟨k1, k2, k3, k4⟩ := hok
      dsimp only at c0 c1 c2 c3 hu hmm hll k1 k2 k3 k4
      have hcon := fun W hW => szTx_any id ua us us.length uc ma ms.length mc la ls.length lc m W rfl k1 (fun x hx => by rw [HML.out]; exact k2 x hx) (hu.below (hW : Below wr.heap.size wr W) (Nat.le_refl _)) k3 k4 hm0 hm1
      have hcon := hcon wr (Below.refl _ _)
      clear hu hmm hll k2
      have HO : Hid (∀ p : Prop, p → p) := fun p h => h
      obtain ⟨un, hun⟩ : ∃ un, us.length = un := ⟨_, rfl⟩
      obtain ⟨mn, hmn⟩ : ∃ mn, ms.length = mn := ⟨_, rfl⟩
      obtain ⟨ln, hln⟩ : ∃ ln, ls.length = ln := ⟨_, rfl⟩
      have HU : Hid (us.length = un ∧ ms.length = mn ∧ ls.length = ln) := ⟨hun, hmn, hln⟩
      rw [hun, hmn, hln] at hcon
      rw [hun] at c1
      rw [hmn] at c2
      rw [hln] at c3
      clear hun hmn hln k1 k3 k4
      go_wp2_with fail
      refine hcon.mono ?_
      rintro e w1 ⟨⟨r, rfl, hr1, hl⟩, g1⟩
      have HL : Hid (0 ≤ r → ∀ x ∈ xs.take (j + 1), TxOk 1048576 x) := fun h0 x hx => by
        rw [HT.out] at hx
        rcases List.mem_append.1 hx with hx | hx
        · exact hall.out x hx
        · rw [List.mem_singleton.1 hx]
          obtain ⟨q1, q2, q3, q4⟩ := hl h0
          obtain ⟨p1, p2, p3⟩ := HU.out
          exact ⟨by rw [p1]; exact q1, q2, by rw [p2]; exact q3, by rw [p3]; exact q4⟩
      have g := g.trans (g1.mono g.size)
      clear g1 c0 c1 c2 c3 hl hall HU HT hcon
      by_cases h0 : r < 0
      · go_wp2_with fail
        go_ret
        exact ⟨⟨-1, rfl, by omega, by omega⟩, g⟩
      · have h0' : ¬ r < 0 := h0
        have HL2 : Hid (∀ x ∈ xs.take (j + 1), TxOk 1048576 x) := HL.out (by omega)
        clear HL
        go_wp2_with fail
        go_roundw
        case rel => exact ⟨j + 1, r, by omega, by go_num, rfl, by omega, hr1, HL2, g⟩
        case measure => simp [intOf]; omega
    · have e : j = n := by omega
      subst e
      go_wp2_with fail
      go_ret
      exact ⟨⟨_, rfl, hm1, fun _ => ⟨by omega, fun x hx => hall.out x (by rw [List.take_of_length_le (by rw [HN.out]; exact Nat.le_refl _)]; exact hx)⟩⟩, g⟩

end Go.Proofs.YtpjlpnaamkbicaaGreatDoor
