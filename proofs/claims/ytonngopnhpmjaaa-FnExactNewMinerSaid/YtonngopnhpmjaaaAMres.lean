/-
  Answers of a miner without changes and without buffers: eqMinerResult, markMinerResult, heldMinerResult.
-/
import Derived.Test.YtonngopnhpmjaaaAEdh

namespace Go.Proofs.Ytonngopnhpmjaaa
open Go.RowKit
set_option linter.unusedVariables false
set_option maxRecDepth 20000

theorem eqChangeS_nil (w : World) : Calls Try.prog 46 #[.slice none 0 0, .slice none 0 0] w fun e w' => e = .returned (.bool true) ∧ w' = w := by
  go_enter Try.func46, Try.ntmps46
  go_wp2_with fail
  go_rounds 1
  go_ret
  exact ⟨rfl, rfl⟩
theorem eqBufferS_nil (w : World) : Calls Try.prog 63 #[.slice none 0 0, .slice none 0 0] w fun e w' => e = .returned (.bool true) ∧ w' = w := by
  go_enter Try.func63, Try.ntmps63
  go_wp2_with fail
  go_rounds 1
  go_ret
  exact ⟨rfl, rfl⟩
theorem markChangeS_nil (k : Int) (w : World) : Calls Try.prog 47 #[.slice none 0 0, .int .i64 k] w fun e w' => e = .returned (.int .i64 k) ∧ w' = w := by
  go_enter Try.func47, Try.ntmps47
  go_wp2_with fail
  go_rounds 1
  go_ret
  exact ⟨rfl, rfl⟩
theorem markBufferS_nil (k : Int) (w : World) : Calls Try.prog 124 #[.slice none 0 0, .int .i64 k] w fun e w' => e = .returned (.int .i64 k) ∧ w' = w := by
  go_enter Try.func124, Try.ntmps124
  go_wp2_with fail
  go_rounds 1
  go_ret
  exact ⟨rfl, rfl⟩
theorem heldChangeS_nil (k : Int) (w : World) : Calls Try.prog 57 #[.slice none 0 0, .int .i64 k] w fun e w' => e = .returned (.int .i64 k) ∧ w' = w := by
  go_enter Try.func57, Try.ntmps57
  go_wp2_with fail
  go_rounds 1
  go_ret
  exact ⟨rfl, rfl⟩
theorem heldBufferS_nil (k : Int) (w : World) : Calls Try.prog 125 #[.slice none 0 0, .int .i64 k] w fun e w' => e = .returned (.int .i64 k) ∧ w' = w := by
  go_enter Try.func125, Try.ntmps125
  go_wp2_with fail
  go_rounds 1
  go_ret
  exact ⟨rfl, rfl⟩

set_option maxHeartbeats 1000000 in
theorem eqMiner_nil (S2 S4 : Nat → Prop) (b y : Option Addr) (m d d' : Nat) (ps : List (List Int)) (w : World) (hp : ps.length = m) (hm' : bigQ ps ≤ 13000000) (h2 : HasQ S2 w b ps) (h4 : HasQ S4 w y ps) :
    Calls Try.prog 21 #[.agg #[.slice b m d, .slice none 0 0], .agg #[.slice y m d', .slice none 0 0]] w fun e w' => e = .returned (.bool true) ∧ Below w.heap.size w w' := by
  obtain ⟨X, hX⟩ : ∃ X, (w.alloc (.cells #[.slice b m d, .slice none 0 0] 43)).alloc (.cells #[.slice y m d', .slice none 0 0] 43) = X := ⟨_, rfl⟩
  have gX : Below w.heap.size w X := by rw [← hX]; go_grown
  have p0 : X.cell? ⟨w.heap.size, 0, none⟩ = some (.slice b m d) := by rw [← hX]; simp [go_sem]
  have p1 : X.cell? ⟨w.heap.size, 1, none⟩ = some (.slice none 0 0) := by rw [← hX]; simp [go_sem]
  have q0 : X.cell? ⟨w.heap.size + 1, 0, none⟩ = some (.slice y m d') := by rw [← hX]; simp [go_sem]
  have q1 : X.cell? ⟨w.heap.size + 1, 1, none⟩ = some (.slice none 0 0) := by rw [← hX]; simp [go_sem]
  have hcon := eqByteSS_has S2 S4 b y m d d' ps X hp hm' (h2.below gX) (h4.below gX)
  have hb0 : w.heap.size < X.heap.size := World.block_lt_of_cell? _ _ p0
  have hb1 : w.heap.size + 1 < X.heap.size := World.block_lt_of_cell? _ _ q0
  clear h2 h4 hm' hp
  go_enter Try.func21, Try.ntmps21
  go_wp2_with (go_at_call 27; refine hcon.mono ?_)
  rintro e w1 ⟨rfl, g1⟩
  have p1 := (g1.cell hb0).trans p1
  have q1 := (g1.cell hb1).trans q1
  have g := gX.trans (g1.mono gX.size)
  clear p0 q0 hcon g1 gX hX
  go_wp2_with (go_at_call 63; refine (eqBufferS_nil _).mono ?_; rintro e w2 ⟨rfl, hw2⟩; subst w2)
  go_ret
  exact ⟨rfl, g⟩

set_option maxHeartbeats 2000000 in
theorem eqMi_same (q : Int) (b y : Option Addr) (m d d' : Nat) (ps : List (List Int)) (lo hi lo' hi' : Nat) (w : World) (hp : ps.length = m) (hm' : bigQ ps ≤ 13000000) (h : EdH lo hi w none [] b ps) (h' : EdH lo' hi' w none [] y ps) :
    Calls Try.prog 26 #[.agg #[.int .i64 q, .bool false, .bool false, .int .i64 0, .slice none 0 0, .slice b m d, .slice none 0 0], .agg #[.int .i64 q, .bool false, .bool false, .int .i64 0, .slice none 0 0, .slice y m d', .slice none 0 0]] w fun e w' => e = .returned (.bool true) ∧ Below w.heap.size w w' := by
  obtain ⟨_, S2, _, h2, _⟩ := h
  obtain ⟨_, S4, _, h4, _⟩ := h'
  obtain ⟨X, hX⟩ : ∃ X, (w.alloc (.cells #[.int .i64 q, .bool false, .bool false, .int .i64 0, .slice none 0 0, .slice b m d, .slice none 0 0] 49)).alloc (.cells #[.int .i64 q, .bool false, .bool false, .int .i64 0, .slice none 0 0, .slice y m d', .slice none 0 0] 49) = X := ⟨_, rfl⟩
  have gX : Below w.heap.size w X := by rw [← hX]; go_grown
  have p0 : X.cell? ⟨w.heap.size, 0, none⟩ = some (.int .i64 q) := by rw [← hX]; simp [go_sem]
  have p1 : X.cell? ⟨w.heap.size, 1, none⟩ = some (.bool false) := by rw [← hX]; simp [go_sem]
  have p2 : X.cell? ⟨w.heap.size, 2, none⟩ = some (.bool false) := by rw [← hX]; simp [go_sem]
  have p3 : X.cell? ⟨w.heap.size, 3, none⟩ = some (.int .i64 0) := by rw [← hX]; simp [go_sem]
  have p4 : X.cell? ⟨w.heap.size, 4, none⟩ = some (.slice none 0 0) := by rw [← hX]; simp [go_sem]
  have p5 : X.cell? ⟨w.heap.size, 5, none⟩ = some (.slice b m d) := by rw [← hX]; simp [go_sem]
  have p6 : X.cell? ⟨w.heap.size, 6, none⟩ = some (.slice none 0 0) := by rw [← hX]; simp [go_sem]
  have q0 : X.cell? ⟨w.heap.size + 1, 0, none⟩ = some (.int .i64 q) := by rw [← hX]; simp [go_sem]
  have q1 : X.cell? ⟨w.heap.size + 1, 1, none⟩ = some (.bool false) := by rw [← hX]; simp [go_sem]
  have q2 : X.cell? ⟨w.heap.size + 1, 2, none⟩ = some (.bool false) := by rw [← hX]; simp [go_sem]
  have q3 : X.cell? ⟨w.heap.size + 1, 3, none⟩ = some (.int .i64 0) := by rw [← hX]; simp [go_sem]
  have q4 : X.cell? ⟨w.heap.size + 1, 4, none⟩ = some (.slice none 0 0) := by rw [← hX]; simp [go_sem]
  have q5 : X.cell? ⟨w.heap.size + 1, 5, none⟩ = some (.slice y m d') := by rw [← hX]; simp [go_sem]
  have q6 : X.cell? ⟨w.heap.size + 1, 6, none⟩ = some (.slice none 0 0) := by rw [← hX]; simp [go_sem]
  have hcon := eqMiner_nil S2 S4 b y m d d' ps X hp hm' (h2.below gX) (h4.below gX)
  clear h2 h4 hm' hp
  go_enter Try.func26, Try.ntmps26
  go_upto_region 11 with (go_at_call 46; refine (eqChangeS_nil _).mono ?_; rintro e w2 ⟨rfl, hw2⟩; subst w2)
  go_wp2_with (go_at_call 21; refine hcon.mono ?_)
  rintro e w1 ⟨rfl, g1⟩
  have g := gX.trans (g1.mono gX.size)
  clear p0 p1 p2 p3 p4 p5 p6 q0 q1 q2 q3 q4 q5 q6 hcon g1 gX hX
  go_wp2_with fail
  go_ret
  exact ⟨rfl, g⟩

set_option maxHeartbeats 1000000 in
theorem markMiner_nil (S2 : Nat → Prop) (b : Option Addr) (m d : Nat) (ps : List (List Int)) (k : Int) (w : World) (hp : ps.length = m) (hm' : bigQ ps ≤ 13000000) (hk0 : 0 ≤ k) (hk1 : k ≤ 10000000) (h2 : HasQ S2 w b ps) (hl : ∀ k, S2 k → k < w.heap.size) :
    Calls Try.prog 72 #[.agg #[.slice b m d, .slice none 0 0], .int .i64 k] w fun e w' => e = .returned (.int .i64 (endQ ps k)) ∧ TurnS S2 w w' ∧ MarkQ S2 w' b ps k := by
  obtain ⟨X, hX⟩ : ∃ X, w.alloc (.cells #[.slice b m d, .slice none 0 0] 43) = X := ⟨_, rfl⟩
  have gX : Below w.heap.size w X := by rw [← hX]; go_grown
  have p0 : X.cell? ⟨w.heap.size, 0, none⟩ = some (.slice b m d) := by rw [← hX]; simp [go_sem]
  have p1 : X.cell? ⟨w.heap.size, 1, none⟩ = some (.slice none 0 0) := by rw [← hX]; simp [go_sem]
  have tX : TurnS S2 w X := TurnS.ofBelow gX
  have hcon := markByteSS_has S2 b m d ps k X hp hm' hk0 hk1 (h2.below gX)
  have HL1 : Hid (¬ S2 w.heap.size) := fun h => Nat.lt_irrefl _ (hl _ h)
  generalize endQ ps k = r2 at hcon
  clear h2 hm' hp hl gX
  go_enter Try.func72, Try.ntmps72
  go_wp2_with (go_at_call 28; refine hcon.mono ?_)
  rintro e w1 ⟨rfl, t1, m1⟩
  have p1 := t1.cell p1 HL1.out
  have HF : Hid (TurnS S2 w w1 ∧ MarkQ S2 w1 b ps k) := ⟨tX.trans t1, m1⟩
  clear p0 t1 m1 hcon hX tX
  go_wp2_with (go_at_call 124; refine (markBufferS_nil _ _).mono ?_; rintro e w2 ⟨rfl, hw2⟩; subst w2)
  go_ret
  exact ⟨rfl, HF.out⟩

set_option maxHeartbeats 1000000 in
theorem markMi_any (q : Int) (b : Option Addr) (m d : Nat) (ps : List (List Int)) (lo hi : Nat) (w : World) (hp : ps.length = m) (hm' : bigQ ps ≤ 13000000) (h : EdH lo hi w none [] b ps) (hh : hi ≤ w.heap.size) :
    Calls Try.prog 29 #[.agg #[.int .i64 q, .bool false, .bool false, .int .i64 0, .slice none 0 0, .slice b m d, .slice none 0 0], .int .i64 1] w fun e w' => e = .returned (.int .i64 (endQ ps 1)) ∧ Turned lo hi w w' ∧ EdM lo hi w' none [] b ps := by
  obtain ⟨S1, S2, h1, h2, l1, l2, d0⟩ := h
  obtain ⟨X, hX⟩ : ∃ X, w.alloc (.cells #[.int .i64 q, .bool false, .bool false, .int .i64 0, .slice none 0 0, .slice b m d, .slice none 0 0] 49) = X := ⟨_, rfl⟩
  have gX : Below w.heap.size w X := by rw [← hX]; go_grown
  have p4 : X.cell? ⟨w.heap.size, 4, none⟩ = some (.slice none 0 0) := by rw [← hX]; simp [go_sem]
  have p5 : X.cell? ⟨w.heap.size, 5, none⟩ = some (.slice b m d) := by rw [← hX]; simp [go_sem]
  have p6 : X.cell? ⟨w.heap.size, 6, none⟩ = some (.slice none 0 0) := by rw [← hX]; simp [go_sem]
  have hcon := markMiner_nil S2 b m d ps 1 X hp hm' (by omega) (by omega) (h2.below gX) (fun k hk => by have := l2 k hk; have := gX.size; omega)
  have HE : Hid (endE [] 1 = 1) := by show _ = _; simp [endE, mk, took]
  have HX : Hid (∀ W, TurnS S2 X W → MarkQ S2 W b ps 1 → Turned lo hi w W ∧ EdM lo hi W none [] b ps) := fun W t m1 => by
    have t := (TurnS.ofBelow (S := S2) gX).trans t
    refine ⟨⟨t.os, t.tape, t.output, t.size, fun k hk hn => t.block k hk (fun hs => hn (l2 k hs))⟩, S1, S2, .inl rfl, by rw [HE.out]; exact m1, l1, l2⟩
  generalize endQ ps 1 = r2 at hcon
  clear h1 h2 hm' hp hh l1 l2 d0 HE gX
  go_enter Try.func29, Try.ntmps29
  go_upto_region 2 with (go_at_call 47; refine (markChangeS_nil _ _).mono ?_; rintro e w2 ⟨rfl, hw2⟩; subst w2)
  go_wp2_with (go_at_call 72; refine hcon.mono ?_)
  rintro e w1 ⟨rfl, t1, m1⟩
  have HF := HX.out w1 t1 m1
  have HF : Hid (Turned lo hi w w1 ∧ EdM lo hi w1 none [] b ps) := HF
  clear p4 p5 p6 t1 m1 hcon hX HX
  go_wp2_with fail
  go_ret
  exact ⟨rfl, HF.out⟩

set_option maxHeartbeats 1000000 in
theorem heldMiner_nil (S2 : Nat → Prop) (b : Option Addr) (m d : Nat) (ps : List (List Int)) (k : Int) (w : World) (hp : ps.length = m) (hm' : bigQ ps ≤ 13000000) (hk0 : 0 ≤ k) (hk1 : k ≤ 10000000) (h2 : MarkQ S2 w b ps k) :
    Calls Try.prog 73 #[.agg #[.slice b m d, .slice none 0 0], .int .i64 k] w fun e w' => e = .returned (.int .i64 (endQ ps k)) ∧ Below w.heap.size w w' := by
  obtain ⟨X, hX⟩ : ∃ X, w.alloc (.cells #[.slice b m d, .slice none 0 0] 43) = X := ⟨_, rfl⟩
  have gX : Below w.heap.size w X := by rw [← hX]; go_grown
  have p0 : X.cell? ⟨w.heap.size, 0, none⟩ = some (.slice b m d) := by rw [← hX]; simp [go_sem]
  have p1 : X.cell? ⟨w.heap.size, 1, none⟩ = some (.slice none 0 0) := by rw [← hX]; simp [go_sem]
  have hcon := heldByteSS_has S2 b m d ps k X hp hm' hk0 hk1 (h2.below gX)
  have hk2 := endQ_pos ps hk0
  generalize endQ ps k = r2 at hcon hk2
  have n2 : ¬ (r2 < 0) := by omega
  clear h2 hm' hp hk1
  go_enter Try.func73, Try.ntmps73
  go_upto_region 4 with (go_at_call 88; refine hcon.mono ?_; rintro e w1 ⟨rfl, hw1⟩; subst w1)
  go_wp2_with (go_at_call 125; refine (heldBufferS_nil _ _).mono ?_; rintro e w2 ⟨rfl, hw2⟩; subst w2)
  go_ret
  exact ⟨rfl, gX⟩

set_option maxHeartbeats 1000000 in
theorem heldMi_any (q : Int) (b : Option Addr) (m d : Nat) (ps : List (List Int)) (lo hi : Nat) (w : World) (hp : ps.length = m) (hm' : bigQ ps ≤ 13000000) (h : EdM lo hi w none [] b ps) :
    Calls Try.prog 30 #[.agg #[.int .i64 q, .bool false, .bool false, .int .i64 0, .slice none 0 0, .slice b m d, .slice none 0 0], .int .i64 1] w fun e w' => e = .returned (.int .i64 (endQ ps 1)) ∧ Below w.heap.size w w' := by
  obtain ⟨S1, S2, h1, h2, _⟩ := h
  rw [show endE [] 1 = 1 by simp [endE, mk, took]] at h2
  obtain ⟨X, hX⟩ : ∃ X, w.alloc (.cells #[.int .i64 q, .bool false, .bool false, .int .i64 0, .slice none 0 0, .slice b m d, .slice none 0 0] 49) = X := ⟨_, rfl⟩
  have gX : Below w.heap.size w X := by rw [← hX]; go_grown
  have p4 : X.cell? ⟨w.heap.size, 4, none⟩ = some (.slice none 0 0) := by rw [← hX]; simp [go_sem]
  have p5 : X.cell? ⟨w.heap.size, 5, none⟩ = some (.slice b m d) := by rw [← hX]; simp [go_sem]
  have p6 : X.cell? ⟨w.heap.size, 6, none⟩ = some (.slice none 0 0) := by rw [← hX]; simp [go_sem]
  have hcon := heldMiner_nil S2 b m d ps 1 X hp hm' (by omega) (by omega) (h2.below gX)
  have hk2 := endQ_pos ps (k := 1) (by omega)
  generalize endQ ps 1 = r2 at hcon hk2
  have n2 : ¬ (r2 < 0) := by omega
  clear h1 h2 hm' hp
  go_enter Try.func30, Try.ntmps30
  go_upto_region 4 with (go_at_call 57; refine (heldChangeS_nil _ _).mono ?_; rintro e w2 ⟨rfl, hw2⟩; subst w2)
  go_wp2_with (go_at_call 73; refine hcon.mono ?_)
  rintro e w1 ⟨rfl, g1⟩
  have g := gX.trans (g1.mono gX.size)
  clear p4 p5 p6 g1 gX hcon hX
  go_wp2_with fail
  go_ret
  exact ⟨rfl, g⟩

end Go.Proofs.Ytonngopnhpmjaaa
