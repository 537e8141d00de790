/-
  The program's tells, bars, isBarred.
-/
import Derived.Test.YtpjlpnaamkbicaaGreatDoorCKTxd
import Derived.Test.YtpjlpnaamkbicaaGreatDoorCKIxt

namespace Go.Proofs.YtpjlpnaamkbicaaGreatDoor
open Go.RowKit Go.Maps
set_option linter.unusedVariables false
set_option maxRecDepth 20000

def tlsB (a k : K2) : Bool := decide (a.x = 0) && decide (a.y = k.x)
def eqB (a k : K2) : Bool := decide (a.x = k.x) && decide (a.y = k.y)
def barB (k a : K2) : Bool := (eqB a k || tlsB a k) || tlsB k a
/-- Whether somebody else holds what the key needs. -/
def hldB (id : Int) (k : K2) (x : TxV) : Bool := decide (x.id ≠ id) && x.l.any (barB k)

set_option maxHeartbeats 1000000 in
theorem tells_any (ax ay kx ky : Int) (w : World) :
    Calls Tryz.prog 115 #[.agg #[.int .i64 ax, .int .i64 ay], .agg #[.int .i64 kx, .int .i64 ky]] w fun e w' => e = .returned (.bool (tlsB ⟨ax, ay⟩ ⟨kx, ky⟩)) ∧ Below w.heap.size w w' := by
  by_cases h : ax = 0
  · have d : (ax == 0) = true := by simpa using h
    have HE : Hid (tlsB ⟨ax, ay⟩ ⟨kx, ky⟩ = decide (ay = kx)) := by show _ = _; unfold tlsB; simp [h]
    clear h
    go_enter Tryz.func115, Tryz.ntmps115
    go_wp2_with fail
    go_ret
    exact ⟨by rw [HE.out]; rfl, by go_grown⟩
  · have d : (ax == 0) = false := by simpa using h
    have HE : Hid (tlsB ⟨ax, ay⟩ ⟨kx, ky⟩ = false) := by show _ = _; unfold tlsB; simp [h]
    clear h
    go_enter Tryz.func115, Tryz.ntmps115
    go_wp2_with fail
    go_ret
    exact ⟨by rw [HE.out]; rfl, by go_grown⟩

set_option maxHeartbeats 2000000 in
theorem bars_any (ax ay kx ky : Int) (w : World) :
    Calls Tryz.prog 95 #[.agg #[.int .i64 ax, .int .i64 ay], .agg #[.int .i64 kx, .int .i64 ky]] w fun e w' => e = .returned (.bool (barB ⟨kx, ky⟩ ⟨ax, ay⟩)) ∧ Below w.heap.size w w' := by
  have H1 : Hid (∀ V, Calls Tryz.prog 115 #[.agg #[.int .i64 ax, .int .i64 ay], .agg #[.int .i64 kx, .int .i64 ky]] V fun e w' => e = .returned (.bool (tlsB ⟨ax, ay⟩ ⟨kx, ky⟩)) ∧ Below V.heap.size V w') := fun V => tells_any ax ay kx ky V
  have H2 : Hid (∀ V, Calls Tryz.prog 115 #[.agg #[.int .i64 kx, .int .i64 ky], .agg #[.int .i64 ax, .int .i64 ay]] V fun e w' => e = .returned (.bool (tlsB ⟨kx, ky⟩ ⟨ax, ay⟩)) ∧ Below V.heap.size V w') := fun V => tells_any kx ky ax ay V
  have HE : Hid (barB ⟨kx, ky⟩ ⟨ax, ay⟩ = ((eqB ⟨ax, ay⟩ ⟨kx, ky⟩ || tlsB ⟨ax, ay⟩ ⟨kx, ky⟩) || tlsB ⟨kx, ky⟩ ⟨ax, ay⟩)) := rfl
  obtain ⟨b0, hb0⟩ : ∃ b, barB ⟨kx, ky⟩ ⟨ax, ay⟩ = b := ⟨_, rfl⟩
  obtain ⟨b1, hb1⟩ : ∃ b, eqB ⟨ax, ay⟩ ⟨kx, ky⟩ = b := ⟨_, rfl⟩
  rw [hb0] at HE ⊢
  rw [hb1] at HE
  have HB1 : Hid ((decide (ax = kx) && decide (ay = ky)) = b1) := hb1
  generalize tlsB ⟨ax, ay⟩ ⟨kx, ky⟩ = b2 at H1 HE
  generalize tlsB ⟨kx, ky⟩ ⟨ax, ay⟩ = b3 at H2 HE
  clear hb0 hb1
  go_enter Tryz.func95, Tryz.ntmps95
  go_upto_region 1 with (fail)
  generalize hY : World.alloc _ _ = Y
  have g : Below w.heap.size w Y := by rw [← hY]; go_grown
  have A0 : Y.cell? ⟨w.heap.size, 0, none⟩ = some (.int .i64 ax) := by rw [← hY]; simp [go_sem]
  have A1 : Y.cell? ⟨w.heap.size, 1, none⟩ = some (.int .i64 ay) := by rw [← hY]; simp [go_sem]
  have B0 : Y.cell? ⟨w.heap.size + 1, 0, none⟩ = some (.int .i64 kx) := by rw [← hY]; simp [go_sem]
  have B1 : Y.cell? ⟨w.heap.size + 1, 1, none⟩ = some (.int .i64 ky) := by rw [← hY]; simp [go_sem]
  clear hY
  obtain ⟨ab, hab⟩ : ∃ ab, w.heap.size = ab := ⟨_, rfl⟩
  obtain ⟨bb, hbb⟩ : ∃ bb, ab + 1 = bb := ⟨_, rfl⟩
  rw [hab] at A0 A1 B0 B1
  rw [hbb] at B0 B1
  simp only [hab]
  try simp only [hbb]
  have HAB : Hid (w.heap.size = ab) := hab
  clear hab hbb
  have lA := World.block_lt_of_cell? _ _ A0
  have lB := World.block_lt_of_cell? _ _ B0
  cases b1
  case true =>
    have h := HB1.out
    simp only [Bool.and_eq_true, decide_eq_true_eq] at h
    obtain ⟨h1, h2⟩ := h
    have HE2 : Hid (b0 = true) := by show _ = _; rw [HE.out]; simp
    clear HE HB1 H1 H2 lA lB
    subst h1 h2
    go_wp2_with fail
    go_ret
    exact ⟨by rw [HE2.out]; rfl, g⟩
  by_cases h1 : ax = kx
  · have h2 : ¬ ay = ky := fun e => by have h := HB1.out; rw [h1, e] at h; simp at h
    have d2 : (ay == ky) = false := by simpa using h2
    clear HB1
    subst h1
    go_wp2_with fail
    refine (H1.out _).mono ?_
    rintro e w1 ⟨rfl, g1⟩
    have A0 := (g1.cell (p := ⟨ab, 0, none⟩) lA).trans A0
    have A1 := (g1.cell (p := ⟨ab, 1, none⟩) lA).trans A1
    have B0 := (g1.cell (p := ⟨bb, 0, none⟩) lB).trans B0
    have B1 := (g1.cell (p := ⟨bb, 1, none⟩) lB).trans B1
    have g := g.trans (g1.mono g.size)
    clear g1 lA lB
    cases b2
    · have HE2 : Hid (b0 = b3) := by show _ = _; rw [HE.out]; simp
      clear HE
      go_wp2_with fail
      refine (H2.out _).mono ?_
      rintro e w2 ⟨rfl, g2⟩
      have g := g.trans (g2.mono g.size)
      clear g2 A0 A1 B0 B1
      go_wp2_with fail
      go_ret
      exact ⟨by rw [HE2.out]; rfl, g⟩
    · have HE2 : Hid (b0 = true) := by show _ = _; rw [HE.out]; simp
      clear HE
      go_wp2_with fail
      go_ret
      exact ⟨by rw [HE2.out]; rfl, g⟩
  · have d1 : (ax == kx) = false := by simpa using h1
    clear HB1
    go_wp2_with fail
    refine (H1.out _).mono ?_
    rintro e w1 ⟨rfl, g1⟩
    have A0 := (g1.cell (p := ⟨ab, 0, none⟩) lA).trans A0
    have A1 := (g1.cell (p := ⟨ab, 1, none⟩) lA).trans A1
    have B0 := (g1.cell (p := ⟨bb, 0, none⟩) lB).trans B0
    have B1 := (g1.cell (p := ⟨bb, 1, none⟩) lB).trans B1
    have g := g.trans (g1.mono g.size)
    clear g1 lA lB
    cases b2
    · have HE2 : Hid (b0 = b3) := by show _ = _; rw [HE.out]; simp
      clear HE
      go_wp2_with fail
      refine (H2.out _).mono ?_
      rintro e w2 ⟨rfl, g2⟩
      have g := g.trans (g2.mono g.size)
      clear g2 A0 A1 B0 B1
      go_wp2_with fail
      go_ret
      exact ⟨by rw [HE2.out]; rfl, g⟩
    · have HE2 : Hid (b0 = true) := by show _ = _; rw [HE.out]; simp
      clear HE
      go_wp2_with fail
      go_ret
      exact ⟨by rw [HE2.out]; rfl, g⟩

set_option maxHeartbeats 1000000 in
theorem barred11_any (ax ay : Int) (kb : Nat) (kx ky : Int) (w : World) (h0 : w.cell? ⟨kb, 0, none⟩ = some (.int .i64 kx)) (h1 : w.cell? ⟨kb, 1, none⟩ = some (.int .i64 ky)) :
    Calls Tryz.prog 94 #[.agg #[.int .i64 ax, .int .i64 ay], .pointer (some ⟨kb, 0, none⟩)] w fun e w' => e = .returned (.bool (barB ⟨kx, ky⟩ ⟨ax, ay⟩)) ∧ Below w.heap.size w w' := by
  have lK := World.block_lt_of_cell? _ _ h0
  go_enter Tryz.func94, Tryz.ntmps94
  go_upto_region 1 with (fail)
  generalize hY : World.alloc _ _ = Y
  have g : Below w.heap.size w Y := by rw [← hY]; go_grown
  have A0 : Y.cell? ⟨w.heap.size, 0, none⟩ = some (.int .i64 ax) := by rw [← hY]; simp [go_sem]
  have A1 : Y.cell? ⟨w.heap.size, 1, none⟩ = some (.int .i64 ay) := by rw [← hY]; simp [go_sem]
  clear hY
  have h0 := (g.cell (p := ⟨kb, 0, none⟩) lK).trans h0
  have h1 := (g.cell (p := ⟨kb, 1, none⟩) lK).trans h1
  obtain ⟨ab, hab⟩ : ∃ ab, w.heap.size = ab := ⟨_, rfl⟩
  rw [hab] at A0 A1
  simp only [hab]
  have HAB : Hid (w.heap.size = ab) := hab
  clear hab
  go_wp2_with fail
  refine (bars_any ax ay kx ky _).mono ?_
  rintro e w1 ⟨rfl, g1⟩
  have g := g.trans (g1.mono g.size)
  clear g1 A0 A1 h0 h1
  go_wp2_with fail
  go_ret
  exact ⟨rfl, g⟩

theorem any_take {α : Type} {p : α → Bool} {xs : List α} {j : Nat} {x : α} (h : xs[j]? = some x) (hp : p x = true) : xs.any p = true := List.any_eq_true.2 ⟨x, List.mem_of_getElem? h, hp⟩
theorem any_none {α : Type} {p : α → Bool} {xs : List α} (h : ∀ x ∈ xs, p x = false) : xs.any p = false := by
  rw [List.any_eq_false]
  intro x hx hp
  rw [h x hx] at hp
  cases hp
theorem take_step {α : Type} {p : α → Bool} {xs : List α} {j : Nat} {x : α} (h : ∀ y ∈ xs.take j, p y = false) (hx : xs[j]? = some x) (hp : p x = false) : ∀ y ∈ xs.take (j + 1), p y = false := fun y hy => by
  rw [take_snoc hx] at hy
  rcases List.mem_append.1 hy with hy | hy
  · exact h y hy
  · rw [List.mem_singleton.1 hy]; exact hp

set_option maxHeartbeats 4000000 in
theorem barredKeys_any (a : Option Addr) (ls : List K2) (n c kb : Nat) (kx ky : Int) (w : World) (hn : ls.length = n) (hm : n ≤ 1048576) (hr : Rs kyE 2 w a ls) (h0 : w.cell? ⟨kb, 0, none⟩ = some (.int .i64 kx)) (h1 : w.cell? ⟨kb, 1, none⟩ = some (.int .i64 ky)) :
    Calls Tryz.prog 114 #[.slice a n c, .func (.func 94) #[] #[.pointer (some ⟨kb, 0, none⟩)]] w fun e w' => (∃ i : Int, e = .returned (.int .i64 i) ∧ decide (0 ≤ i) = ls.any (barB ⟨kx, ky⟩)) ∧ Below w.heap.size w w' := by
  have lK := World.block_lt_of_cell? _ _ h0
  have HN : Hid (ls.length = n) := hn
  have HR : Hid (∀ W, Below w.heap.size w W → Rs kyE 2 W a ls) := fun W hW => hr.below hW (Nat.le_refl _)
  have HK : Hid (∀ W, Below w.heap.size w W → W.cell? ⟨kb, 0, none⟩ = some (.int .i64 kx) ∧ W.cell? ⟨kb, 1, none⟩ = some (.int .i64 ky)) := fun W hW => ⟨(hW.cell (p := ⟨kb, 0, none⟩) lK).trans h0, (hW.cell (p := ⟨kb, 1, none⟩) lK).trans h1⟩
  clear hn hr h0 h1 lK
  go_enter Tryz.func114, Tryz.ntmps114
  go_wp2_with fail
  go_loopw [8] (fun i wr => ∃ j : Nat, j ≤ n ∧ i = .int .i64 j ∧ Below w.heap.size w wr ∧ Hid (∀ x ∈ ls.take j, barB ⟨kx, ky⟩ x = false)) (fun i _ => n - (intOf i).toNat)
  case atStart => exact ⟨0, Nat.zero_le _, rfl, Below.refl _ _, by intro x hx; simp at hx⟩
  case round =>
    obtain ⟨j, hj, rfl, gr, hA⟩ := hrel
    by_cases hlt : j < n
    · obtain ⟨x, hx⟩ : ∃ x, ls[j]? = some x := ⟨_, List.getElem?_eq_getElem (by rw [HN.out]; exact hlt)⟩
      obtain ⟨b, off, e0, c0, c1⟩ := (HR.out wr gr).key hx
      obtain rfl := e0
      have hjn : (j : Int) < (n : Int) := by omega
      have HX : Hid (ls[j]? = some x) := hx
      obtain ⟨p, hp⟩ : ∃ p, barB ⟨kx, ky⟩ x = p := ⟨_, rfl⟩
      have HP : Hid (barB ⟨kx, ky⟩ x = p) := hp
      clear hx
      obtain ⟨ax, ay⟩ := x
      obtain ⟨k0, k1⟩ := HK.out wr gr
      have hcon := barred11_any ax ay kb kx ky wr k0 k1
      rw [hp] at hcon
      dsimp only at c0 c1
      clear hp k0 k1
      go_wp2_with fail
      refine hcon.mono ?_
      rintro e W ⟨rfl, gW⟩
      have gr := gr.trans (gW.mono gr.size)
      clear gW hcon c0 c1
      cases p
      · have HA2 : Hid (∀ x ∈ ls.take (j + 1), barB ⟨kx, ky⟩ x = false) := take_step hA.out HX.out HP.out
        go_wp2_with fail
        go_roundw
        case rel => exact ⟨j + 1, by omega, by go_num, gr, HA2⟩
        case measure => simp [intOf]; omega
      · have HE : Hid (ls.any (barB ⟨kx, ky⟩) = true) := any_take HX.out HP.out
        go_wp2_with fail
        go_ret
        exact ⟨⟨_, rfl, by rw [HE.out]; simp⟩, gr⟩
    · have e : j = n := by omega
      subst e
      have HE : Hid (ls.any (barB ⟨kx, ky⟩) = false) := any_none (fun x hx => hA.out x (by rw [List.take_of_length_le (by rw [HN.out]; exact Nat.le_refl _)]; exact hx))
      go_wp2_with fail
      go_ret
      exact ⟨⟨_, rfl, by rw [HE.out]; rfl⟩, gr⟩

set_option maxHeartbeats 1000000 in
theorem barredContains_any (a : Option Addr) (ls : List K2) (n c kb : Nat) (kx ky : Int) (w : World) (hn : ls.length = n) (hm : n ≤ 1048576) (hr : Rs kyE 2 w a ls) (h0 : w.cell? ⟨kb, 0, none⟩ = some (.int .i64 kx)) (h1 : w.cell? ⟨kb, 1, none⟩ = some (.int .i64 ky)) :
    Calls Tryz.prog 93 #[.slice a n c, .func (.func 94) #[] #[.pointer (some ⟨kb, 0, none⟩)]] w fun e w' => e = .returned (.bool (ls.any (barB ⟨kx, ky⟩))) ∧ Below w.heap.size w w' := by
  have hcon := barredKeys_any a ls n c kb kx ky w hn hm hr h0 h1
  clear hn hr h0 h1
  generalize ls.any (barB ⟨kx, ky⟩) = b at hcon ⊢
  go_enter Tryz.func93, Tryz.ntmps93
  go_wp2_with fail
  refine hcon.mono ?_
  rintro e w1 ⟨⟨i, rfl, hi⟩, g⟩
  have HI : Hid (decide (0 ≤ i) = b) := hi
  clear hi hcon
  go_wp2_with fail
  go_ret
  exact ⟨by rw [← HI.out]; rfl, g⟩

set_option maxHeartbeats 2000000 in
theorem barred1_any (id : Int) (ua : Option Addr) (un uc : Nat) (ma : Option Addr) (mn mc : Nat) (la : Option Addr) (ls : List K2) (ln lc : Nat) (tb kb : Nat) (t kx ky : Int) (w : World) (hn : ls.length = ln) (hm : ln ≤ 1048576) (hr : Rs kyE 2 w la ls) (ht : w.cell? ⟨tb, 0, none⟩ = some (.int .i64 t)) (h0 : w.cell? ⟨kb, 0, none⟩ = some (.int .i64 kx)) (h1 : w.cell? ⟨kb, 1, none⟩ = some (.int .i64 ky)) :
    Calls Tryz.prog 92 #[.agg #[.int .i64 id, .slice ua un uc, .slice ma mn mc, .slice la ln lc], .pointer (some ⟨tb, 0, none⟩), .pointer (some ⟨kb, 0, none⟩)] w fun e w' => e = .returned (.bool (decide (id ≠ t) && ls.any (barB ⟨kx, ky⟩))) ∧ Below w.heap.size w w' := by
  have lT := World.block_lt_of_cell? _ _ ht
  have lK := World.block_lt_of_cell? _ _ h0
  have HC : Hid (∀ V, Below w.heap.size w V → Calls Tryz.prog 93 #[.slice la ln lc, .func (.func 94) #[] #[.pointer (some ⟨kb, 0, none⟩)]] V fun e w' => e = .returned (.bool (ls.any (barB ⟨kx, ky⟩))) ∧ Below V.heap.size V w') := fun V hV => barredContains_any la ls ln lc kb kx ky V hn hm (hr.below hV (Nat.le_refl _)) ((hV.cell (p := ⟨kb, 0, none⟩) lK).trans h0) ((hV.cell (p := ⟨kb, 1, none⟩) lK).trans h1)
  clear hn hr h0 h1 lK
  generalize ls.any (barB ⟨kx, ky⟩) = b at HC ⊢
  by_cases hid : id = t
  · have d : decide (id = t) = true := by simpa using hid
    have HE : Hid ((decide (id ≠ t) && b) = false) := by show _ = _; simp [hid]
    clear hid HC
    go_enter Tryz.func92, Tryz.ntmps92
    go_upto_region 1 with (fail)
    generalize hY : World.alloc _ _ = Y
    have g : Below w.heap.size w Y := by rw [← hY]; go_grown
    have A : T4 Y w.heap.size id ua un uc ma mn mc la ln lc := by rw [← hY]; exact ⟨by simp [go_sem], by simp [go_sem], by simp [go_sem], by simp [go_sem]⟩
    clear hY
    have ht := (g.cell (p := ⟨tb, 0, none⟩) lT).trans ht
    obtain ⟨ab, hab⟩ : ∃ ab, w.heap.size = ab := ⟨_, rfl⟩
    rw [hab] at A
    simp only [hab]
    have HAB : Hid (w.heap.size = ab) := hab
    clear hab
    obtain ⟨c0, c1, c2, c3⟩ := A
    have d2 : (id != t) = false := by simpa using d
    go_wp2_with fail
    go_ret
    exact ⟨by first | rfl | (rw [HE.out]; rfl), g⟩
  · have d2 : (id != t) = true := by simpa using hid
    have HE : Hid ((decide (id ≠ t) && b) = b) := by show _ = _; simp [hid]
    clear hid
    go_enter Tryz.func92, Tryz.ntmps92
    go_upto_region 1 with (fail)
    generalize hY : World.alloc _ _ = Y
    have g : Below w.heap.size w Y := by rw [← hY]; go_grown
    have A : T4 Y w.heap.size id ua un uc ma mn mc la ln lc := by rw [← hY]; exact ⟨by simp [go_sem], by simp [go_sem], by simp [go_sem], by simp [go_sem]⟩
    clear hY
    have ht := (g.cell (p := ⟨tb, 0, none⟩) lT).trans ht
    obtain ⟨ab, hab⟩ : ∃ ab, w.heap.size = ab := ⟨_, rfl⟩
    rw [hab] at A
    simp only [hab]
    have HAB : Hid (w.heap.size = ab) := hab
    clear hab
    obtain ⟨c0, c1, c2, c3⟩ := A
    have hcon := HC.out Y g
    go_wp2_with fail
    refine hcon.mono ?_
    rintro e w1 ⟨rfl, g1⟩
    have g := g.trans (g1.mono g.size)
    clear hcon g1 c0 c1 c2 c3 HC
    go_wp2_with fail
    go_ret
    exact ⟨by first | rfl | (rw [HE.out]; rfl), g⟩

set_option maxHeartbeats 4000000 in
theorem barredTxs_any (a : Option Addr) (xs : List TxV) (n c tb kb : Nat) (t kx ky : Int) (w : World) (hn : xs.length = n) (hm : n ≤ 1048576) (hs : ∀ x ∈ xs, TxOk 1048576 x) (hr : TxRd w a xs) (ht : w.cell? ⟨tb, 0, none⟩ = some (.int .i64 t)) (h0 : w.cell? ⟨kb, 0, none⟩ = some (.int .i64 kx)) (h1 : w.cell? ⟨kb, 1, none⟩ = some (.int .i64 ky)) :
    Calls Tryz.prog 59 #[.slice a n c, .func (.func 92) #[] #[.pointer (some ⟨tb, 0, none⟩), .pointer (some ⟨kb, 0, none⟩)]] w fun e w' => (∃ i : Int, e = .returned (.int .i64 i) ∧ decide (0 ≤ i) = xs.any (hldB t ⟨kx, ky⟩)) ∧ Below w.heap.size w w' := by
  have lT := World.block_lt_of_cell? _ _ ht
  have lK := World.block_lt_of_cell? _ _ h0
  have HN : Hid (xs.length = n) := hn
  have HS : Hid (∀ x ∈ xs, TxOk 1048576 x) := hs
  have HR : Hid (∀ W, Below w.heap.size w W → TxRd W a xs) := fun W hW => hr.below hW (Nat.le_refl _)
  have HK : Hid (∀ W, Below w.heap.size w W → W.cell? ⟨tb, 0, none⟩ = some (.int .i64 t) ∧ W.cell? ⟨kb, 0, none⟩ = some (.int .i64 kx) ∧ W.cell? ⟨kb, 1, none⟩ = some (.int .i64 ky)) := fun W hW => ⟨(hW.cell (p := ⟨tb, 0, none⟩) lT).trans ht, (hW.cell (p := ⟨kb, 0, none⟩) lK).trans h0, (hW.cell (p := ⟨kb, 1, none⟩) lK).trans h1⟩
  clear hn hr h0 h1 ht lK lT hs
  go_enter Tryz.func59, Tryz.ntmps59
  go_wp2_with fail
  go_loopw [8] (fun i wr => ∃ j : Nat, j ≤ n ∧ i = .int .i64 j ∧ Below w.heap.size w wr ∧ Hid (∀ x ∈ xs.take j, hldB t ⟨kx, ky⟩ x = false)) (fun i _ => n - (intOf i).toNat)
  case atStart => exact ⟨0, Nat.zero_le _, rfl, Below.refl _ _, by intro x hx; simp at hx⟩
  case round =>
    obtain ⟨j, hj, rfl, gr, hA⟩ := hrel
    by_cases hlt : j < n
    · obtain ⟨x, hx⟩ := at_ltT (xs := xs) (i := j) (by rw [HN.out]; exact hlt)
      obtain ⟨b, off, ua, ma, la, uc, mc, lc, e0, Z⟩ := (HR.out wr gr).at hx
      obtain rfl := e0
      have hjn : (j : Int) < (n : Int) := by omega
      have HX : Hid (xs[j]? = some x) := hx
      have hlm := (HS.out x (List.mem_of_getElem? hx)).2.2.2
      obtain ⟨p, hp⟩ : ∃ p, hldB t ⟨kx, ky⟩ x = p := ⟨_, rfl⟩
      have HP : Hid (hldB t ⟨kx, ky⟩ x = p) := hp
      clear hx
      obtain ⟨id, us, ms, ls⟩ := x
      obtain ⟨c0, c1, c2, c3, -, -, hl⟩ := Z
      dsimp only at c0 c1 c2 c3 hl hlm
      obtain ⟨kt, k0, k1⟩ := HK.out wr gr
      have hcon := barred1_any id ua us.length uc ma ms.length mc la ls ls.length lc tb kb t kx ky wr rfl hlm hl kt k0 k1
      have hp2 : (decide (id ≠ t) && ls.any (barB ⟨kx, ky⟩)) = p := hp
      rw [hp2] at hcon
      clear hp hp2 kt k0 k1 hl hlm
      generalize us.length = un at c1 hcon
      generalize ms.length = mn at c2 hcon
      generalize ls.length = ln at c3 hcon
      go_wp2_with fail
      refine hcon.mono ?_
      rintro e W ⟨rfl, gW⟩
      have gr := gr.trans (gW.mono gr.size)
      clear gW hcon c0 c1 c2 c3
      cases p
      · have HA2 : Hid (∀ x ∈ xs.take (j + 1), hldB t ⟨kx, ky⟩ x = false) := take_step hA.out HX.out HP.out
        go_wp2_with fail
        go_roundw
        case rel => exact ⟨j + 1, by omega, by go_num, gr, HA2⟩
        case measure => simp [intOf]; omega
      · have HE : Hid (xs.any (hldB t ⟨kx, ky⟩) = true) := any_take HX.out HP.out
        go_wp2_with fail
        go_ret
        exact ⟨⟨_, rfl, by rw [HE.out]; simp⟩, gr⟩
    · have e : j = n := by omega
      subst e
      have HE : Hid (xs.any (hldB t ⟨kx, ky⟩) = false) := any_none (fun x hx => hA.out x (by rw [List.take_of_length_le (by rw [HN.out]; exact Nat.le_refl _)]; exact hx))
      go_wp2_with fail
      go_ret
      exact ⟨⟨_, rfl, by rw [HE.out]; rfl⟩, gr⟩

set_option maxHeartbeats 1000000 in
theorem barredContainsT_any (a : Option Addr) (xs : List TxV) (n c tb kb : Nat) (t kx ky : Int) (w : World) (hn : xs.length = n) (hm : n ≤ 1048576) (hs : ∀ x ∈ xs, TxOk 1048576 x) (hr : TxRd w a xs) (ht : w.cell? ⟨tb, 0, none⟩ = some (.int .i64 t)) (h0 : w.cell? ⟨kb, 0, none⟩ = some (.int .i64 kx)) (h1 : w.cell? ⟨kb, 1, none⟩ = some (.int .i64 ky)) :
    Calls Tryz.prog 91 #[.slice a n c, .func (.func 92) #[] #[.pointer (some ⟨tb, 0, none⟩), .pointer (some ⟨kb, 0, none⟩)]] w fun e w' => e = .returned (.bool (xs.any (hldB t ⟨kx, ky⟩))) ∧ Below w.heap.size w w' := by
  have hcon := barredTxs_any a xs n c tb kb t kx ky w hn hm hs hr ht h0 h1
  clear hn hr h0 h1 ht hs
  generalize xs.any (hldB t ⟨kx, ky⟩) = b at hcon ⊢
  go_enter Tryz.func91, Tryz.ntmps91
  go_wp2_with fail
  refine hcon.mono ?_
  rintro e w1 ⟨⟨i, rfl, hi⟩, g⟩
  have HI : Hid (decide (0 ≤ i) = b) := hi
  clear hi hcon
  go_wp2_with fail
  go_ret
  exact ⟨by rw [← HI.out]; rfl, g⟩

set_option maxHeartbeats 1000000 in
theorem isBarred_any (a : Option Addr) (xs : List TxV) (n c : Nat) (t kx ky : Int) (w : World) (hn : xs.length = n) (hm : n ≤ 1048576) (hs : ∀ x ∈ xs, TxOk 1048576 x) (hr : TxRd w a xs) :
    Calls Tryz.prog 63 #[.slice a n c, .int .i64 t, .agg #[.int .i64 kx, .int .i64 ky]] w fun e w' => e = .returned (.bool (xs.any (hldB t ⟨kx, ky⟩))) ∧ Below w.heap.size w w' := by
  have HC : Hid (∀ V tb kb, Below w.heap.size w V → V.cell? ⟨tb, 0, none⟩ = some (.int .i64 t) → V.cell? ⟨kb, 0, none⟩ = some (.int .i64 kx) → V.cell? ⟨kb, 1, none⟩ = some (.int .i64 ky) → Calls Tryz.prog 91 #[.slice a n c, .func (.func 92) #[] #[.pointer (some ⟨tb, 0, none⟩), .pointer (some ⟨kb, 0, none⟩)]] V fun e w' => e = .returned (.bool (xs.any (hldB t ⟨kx, ky⟩))) ∧ Below V.heap.size V w') := fun V tb kb hV h1 h2 h3 => barredContainsT_any a xs n c tb kb t kx ky V hn hm hs (hr.below hV (Nat.le_refl _)) h1 h2 h3
  clear hn hr hs
  generalize xs.any (hldB t ⟨kx, ky⟩) = b at HC ⊢
  go_enter Tryz.func63, Tryz.ntmps63
  go_upto_region 1 with (fail)
  generalize hY : World.alloc _ _ = Y
  have g : Below w.heap.size w Y := by rw [← hY]; go_grown
  have A0 : Y.cell? ⟨w.heap.size, 0, none⟩ = some (.int .i64 t) := by rw [← hY]; simp [go_sem]
  have B0 : Y.cell? ⟨w.heap.size + 1, 0, none⟩ = some (.int .i64 kx) := by rw [← hY]; simp [go_sem]
  have B1 : Y.cell? ⟨w.heap.size + 1, 1, none⟩ = some (.int .i64 ky) := by rw [← hY]; simp [go_sem]
  clear hY
  obtain ⟨ab, hab⟩ : ∃ ab, w.heap.size = ab := ⟨_, rfl⟩
  obtain ⟨bb, hbb⟩ : ∃ bb, ab + 1 = bb := ⟨_, rfl⟩
  rw [hab] at A0 B0 B1
  rw [hbb] at B0 B1
  simp only [hab]
  try simp only [hbb]
  have HAB : Hid (w.heap.size = ab) := hab
  clear hab hbb
  have hcon := HC.out Y ab bb g A0 B0 B1
  go_wp2_with fail
  refine hcon.mono ?_
  rintro e w1 ⟨rfl, g1⟩
  have g := g.trans (g1.mono g.size)
  clear hcon g1 A0 B0 B1
  go_wp2_with fail
  go_ret
  exact ⟨rfl, g⟩

end Go.Proofs.YtpjlpnaamkbicaaGreatDoor
