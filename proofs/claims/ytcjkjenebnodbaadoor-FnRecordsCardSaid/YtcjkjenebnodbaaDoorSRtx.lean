/-
  The program's numbersOf and RecordText.
-/
import Derived.Test.YtcjkjenebnodbaaDoorSShelf

namespace Go.Proofs.YtcjkjenebnodbaaDoor
open Go.RowKit
set_option linter.unusedVariables false

/-- A word, and numerals behind it. -/
def txtS (wd : ByteArray) (xs : Nat → Nat) : Nat → ByteArray
  | 0 => wd
  | j + 1 => txtS wd xs j ++ (⟨#[32]⟩ ++ decS (xs j))
theorem txtS_size {wd : ByteArray} {xs : Nat → Nat} (h : wd.size ≤ 10) : ∀ j, (∀ i, i < j → xs i < 1000000) → (txtS wd xs j).size ≤ 10 + 22 * j
  | 0, _ => by simpa [txtS] using h
  | j + 1, hx => by
    have h1 := txtS_size h j (fun i hi => hx i (by omega))
    have h2 := decS_size (xs j) (hx j (by omega))
    simp only [txtS, ByteArray.size_append]
    have h3 : (ByteArray.mk #[32]).size = 1 := rfl
    omega
theorem cellUp' {V W : World} (hb : Below V.heap.size V W) {p : Addr} {v : Value} (h : V.cell? p = some v) : W.cell? p = some v := cellUp hb h
/-- Block b holds the cells of a TextResult with nothing in it, and they may be written. -/
structure OutT (w : World) (b : Nat) : Prop where
  c0 : w.cell? ⟨b, 0, none⟩ = some (.int .i64 0)
  c1 : w.cell? ⟨b, 1, none⟩ = some (.string ⟨#[]⟩)
  f0 : w.frozen? ⟨b, 0, none⟩ = false
  f1 : w.frozen? ⟨b, 1, none⟩ = false
theorem OutT.lt {w : World} {b : Nat} (h : OutT w b) : b < w.heap.size := World.block_lt_of_cell? w _ h.c0
theorem OutT.below {w w' : World} {b : Nat} (h : OutT w b) (hb : Below w.heap.size w w') : OutT w' b :=
  ⟨(hb.cell (p := ⟨b, 0, none⟩) h.lt).trans h.c0, (hb.cell (p := ⟨b, 1, none⟩) h.lt).trans h.c1, (hb.frozen (p := ⟨b, 0, none⟩) h.lt).trans h.f0, (hb.frozen (p := ⟨b, 1, none⟩) h.lt).trans h.f1⟩
/-- Four cells of a record at block b. -/
structure RcAtT (V : World) (b : Nat) (k tx pg : Int) (a : Option Addr) (n c : Nat) : Prop where
  c0 : V.cell? ⟨b, 0, none⟩ = some (.int .i64 k)
  c1 : V.cell? ⟨b, 1, none⟩ = some (.int .i64 tx)
  c2 : V.cell? ⟨b, 2, none⟩ = some (.int .i64 pg)
  c3 : V.cell? ⟨b, 3, none⟩ = some (.slice a n c)
theorem RcAtT.up {V W : World} {b : Nat} {k tx pg : Int} {a : Option Addr} {n c : Nat} (h : RcAtT V b k tx pg a n c) (hb : Below V.heap.size V W) : RcAtT W b k tx pg a n c :=
  ⟨cellUp hb h.c0, cellUp hb h.c1, cellUp hb h.c2, cellUp hb h.c3⟩
/-- One number, or three. -/
def one (x : Nat) : Nat → Nat := fun _ => x
def three (x y z : Nat) : Nat → Nat := fun i => if i = 0 then x else if i = 1 then y else z

set_option maxHeartbeats 1000000 in
theorem numbersOf_1 (tx : Nat) (w : World) : Calls Tryd.prog 37 #[.iface 91 (.agg #[.int .i64 tx])] w fun e w' => ∃ g, e = .returned (.slice (some ⟨g, 0, none⟩) 1 1) ∧ Below w.heap.size w w' ∧ ∀ i, i < 1 → w'.cell? ⟨g, i, none⟩ = some (.int .i64 (one tx i)) := by
  have f81 := as81_81 (.agg #[.int .i64 (tx : Int)])
  go_enter Tryd.func37, Tryd.ntmps37
  go_wp2_with fail
  go_ret
  exact ⟨_, rfl, by go_grown, fun i hi => by
    obtain rfl : i = 0 := by omega
    simp [go_sem, one]⟩

set_option maxHeartbeats 1000000 in
theorem numbersOf_5 (tx : Nat) (w : World) : Calls Tryd.prog 37 #[.iface 97 (.agg #[.int .i64 tx])] w fun e w' => ∃ g, e = .returned (.slice (some ⟨g, 0, none⟩) 1 1) ∧ Below w.heap.size w w' ∧ ∀ i, i < 1 → w'.cell? ⟨g, i, none⟩ = some (.int .i64 (one tx i)) := by
  have f81 := as87_81 (.agg #[.int .i64 (tx : Int)])
  have f83 := as87_83 (.agg #[.int .i64 (tx : Int)])
  have f84 := as87_84 (.agg #[.int .i64 (tx : Int)])
  have f86 := as87_86 (.agg #[.int .i64 (tx : Int)])
  have f87 := as87_87 (.agg #[.int .i64 (tx : Int)])
  go_enter Tryd.func37, Tryd.ntmps37
  go_wp2_with fail
  go_ret
  exact ⟨_, rfl, by go_grown, fun i hi => by
    obtain rfl : i = 0 := by omega
    simp [go_sem, one]⟩

set_option maxHeartbeats 1000000 in
theorem numbersOf_6 (tx : Nat) (w : World) : Calls Tryd.prog 37 #[.iface 98 (.agg #[.int .i64 tx])] w fun e w' => ∃ g, e = .returned (.slice (some ⟨g, 0, none⟩) 1 1) ∧ Below w.heap.size w w' ∧ ∀ i, i < 1 → w'.cell? ⟨g, i, none⟩ = some (.int .i64 (one tx i)) := by
  have f81 := as88_81 (.agg #[.int .i64 (tx : Int)])
  have f83 := as88_83 (.agg #[.int .i64 (tx : Int)])
  have f84 := as88_84 (.agg #[.int .i64 (tx : Int)])
  have f86 := as88_86 (.agg #[.int .i64 (tx : Int)])
  have f87 := as88_87 (.agg #[.int .i64 (tx : Int)])
  have f88 := as88_88 (.agg #[.int .i64 (tx : Int)])
  go_enter Tryd.func37, Tryd.ntmps37
  go_wp2_with fail
  go_ret
  exact ⟨_, rfl, by go_grown, fun i hi => by
    obtain rfl : i = 0 := by omega
    simp [go_sem, one]⟩

theorem word_1 (tx pg : Int) (a : Option Addr) (n c : Nat) (w : World) : Calls Tryd.prog 117 #[.agg #[.int .i64 tx]] w fun e w' => e = .returned (.string ⟨#[98, 101, 103, 105, 110]⟩) ∧ Below w.heap.size w w' := by
  go_enter Tryd.func117, Tryd.ntmps117
  go_wp2
  go_ret
  exact ⟨rfl, by go_grown⟩

theorem word_2 (tx pg : Int) (a : Option Addr) (n c : Nat) (w : World) : Calls Tryd.prog 118 #[.agg #[.int .i64 tx, .int .i64 pg, .slice a n c]] w fun e w' => e = .returned (.string ⟨#[100, 101, 108, 116, 97]⟩) ∧ Below w.heap.size w w' := by
  go_enter Tryd.func118, Tryd.ntmps118
  go_wp2
  go_ret
  exact ⟨rfl, by go_grown⟩

theorem word_3 (tx pg : Int) (a : Option Addr) (n c : Nat) (w : World) : Calls Tryd.prog 119 #[.agg #[.int .i64 tx, .int .i64 pg, .slice a n c]] w fun e w' => e = .returned (.string ⟨#[99, 111, 109, 112]⟩) ∧ Below w.heap.size w w' := by
  go_enter Tryd.func119, Tryd.ntmps119
  go_wp2
  go_ret
  exact ⟨rfl, by go_grown⟩

theorem word_4 (tx pg : Int) (a : Option Addr) (n c : Nat) (w : World) : Calls Tryd.prog 120 #[.agg #[.int .i64 pg, .slice a n c]] w fun e w' => e = .returned (.string ⟨#[105, 109, 97, 103, 101]⟩) ∧ Below w.heap.size w w' := by
  go_enter Tryd.func120, Tryd.ntmps120
  go_wp2
  go_ret
  exact ⟨rfl, by go_grown⟩

theorem word_5 (tx pg : Int) (a : Option Addr) (n c : Nat) (w : World) : Calls Tryd.prog 121 #[.agg #[.int .i64 tx]] w fun e w' => e = .returned (.string ⟨#[99, 111, 109, 109, 105, 116]⟩) ∧ Below w.heap.size w w' := by
  go_enter Tryd.func121, Tryd.ntmps121
  go_wp2
  go_ret
  exact ⟨rfl, by go_grown⟩

theorem word_6 (tx pg : Int) (a : Option Addr) (n c : Nat) (w : World) : Calls Tryd.prog 122 #[.agg #[.int .i64 tx]] w fun e w' => e = .returned (.string ⟨#[97, 98, 111, 114, 116]⟩) ∧ Below w.heap.size w w' := by
  go_enter Tryd.func122, Tryd.ntmps122
  go_wp2
  go_ret
  exact ⟨rfl, by go_grown⟩

set_option maxHeartbeats 1000000 in
theorem numbersOf_2 (tx pg : Nat) (a : Option Addr) (n c : Nat) (P : Nat → Int) (A : Nat → Option Addr) (C : Nat → Nat) (Z : Nat → List Int) (w : World) (hm : n + took Z n ≤ 1048576) (hr : RunsRead w a n P A C Z) :
    Calls Tryd.prog 37 #[.iface 93 (.agg #[.int .i64 (tx : Int), .int .i64 (pg : Int), .slice a n c])] w fun e w' => ∃ g, e = .returned (.slice (some ⟨g, 0, none⟩) 3 3) ∧ Below w.heap.size w w' ∧ ∀ i, i < 3 → w'.cell? ⟨g, i, none⟩ = some (.int .i64 (three tx pg (took Z n) i)) := by
  have f81 := as83_81 (.agg #[.int .i64 (tx : Int), .int .i64 (pg : Int), .slice a n c])
  have f83 := as83_83 (.agg #[.int .i64 (tx : Int), .int .i64 (pg : Int), .slice a n c])
  have HR : Hid (RunsRead w a n P A C Z) := hr
  clear hr
  go_enter Tryd.func37, Tryd.ntmps37
  go_wp2_with fail
  generalize hY : World.alloc w _ = Y
  have gY : Below w.heap.size w Y := by rw [← hY]; go_grown
  have hH : (fun V => V.cell? ⟨w.heap.size, 0, none⟩ = some (.int .i64 (tx : Int)) ∧ V.cell? ⟨w.heap.size, 1, none⟩ = some (.int .i64 (pg : Int)) ∧ V.cell? ⟨w.heap.size, 2, none⟩ = some (.slice a n c) ∧ Below w.heap.size w V) Y := ⟨by rw [← hY]; simp [go_sem], by rw [← hY]; simp [go_sem], by rw [← hY]; simp [go_sem], gY⟩
  have gd : Below Y.heap.size Y Y.drew := (Below.refl _ _).drew
  refine wp_region_held_drew (S := fun V => V.cell? ⟨w.heap.size, 0, none⟩ = some (.int .i64 (tx : Int)) ∧ V.cell? ⟨w.heap.size, 1, none⟩ = some (.int .i64 (pg : Int)) ∧ V.cell? ⟨w.heap.size, 2, none⟩ = some (.slice a n c) ∧ Below w.heap.size w V) (by kernel_rfl) ⟨cellUp gd hH.1, cellUp gd hH.2.1, cellUp gd hH.2.2.1, hH.2.2.2.trans (gd.mono hH.2.2.2.size)⟩ (fun hHeld => ?_)
  generalize Y.drew = D at hHeld ⊢
  clear hY gY hH gd
  refine wpAnyH_take (i := 0) (v := ?v1) rfl (by kernel_rfl) (by kernel_rfl) (by kernel_rfl) (fun _ _ _ h => h) (Or.inl ⟨by kernel_rfl, ?h1⟩) hHeld ?_
  case h1 => intro u hSw; (try dsimp only at hSw); go_simp; try with_reducible rfl
  try simp only [List.getElem_toArray]
  try simp only [List.getElem_cons_succ]
  try simp only [List.getElem_cons_zero]
  try simp only [Act.put]
  try simp only [List.setIfInBounds_toArray]
  try simp only [List.set]
  refine wpAnyH_take (i := 1) (v := ?v2) rfl (by kernel_rfl) (by kernel_rfl) (by kernel_rfl) (fun _ _ _ h => h) (Or.inl ⟨by kernel_rfl, ?h2⟩) hHeld ?_
  case h2 => intro u hSw; obtain ⟨c0, c1, c2, _⟩ := hSw; go_simp; try with_reducible rfl
  try simp only [List.getElem_toArray]
  try simp only [List.getElem_cons_succ]
  try simp only [List.getElem_cons_zero]
  try simp only [Act.put]
  try simp only [List.setIfInBounds_toArray]
  try simp only [List.set]
  refine wpAnyH_take (i := 2) (v := ?v3) rfl (by kernel_rfl) (by kernel_rfl) (by kernel_rfl) (fun _ _ _ h => h) (Or.inl ⟨by kernel_rfl, ?h3⟩) hHeld ?_
  case h3 => intro u hSw; (try dsimp only at hSw); go_simp; try with_reducible rfl
  try simp only [List.getElem_toArray]
  try simp only [List.getElem_cons_succ]
  try simp only [List.getElem_cons_zero]
  try simp only [Act.put]
  try simp only [List.setIfInBounds_toArray]
  try simp only [List.set]
  refine wpAnyH_take (i := 3) (v := ?v4) rfl (by kernel_rfl) (by kernel_rfl) (by kernel_rfl) (fun _ _ _ h => h) (Or.inl ⟨by kernel_rfl, ?h4⟩) hHeld ?_
  case h4 => intro u hSw; obtain ⟨c0, c1, c2, _⟩ := hSw; go_simp; try with_reducible rfl
  try simp only [List.getElem_toArray]
  try simp only [List.getElem_cons_succ]
  try simp only [List.getElem_cons_zero]
  try simp only [Act.put]
  try simp only [List.setIfInBounds_toArray]
  try simp only [List.set]
  refine wpAnyH_take (i := 4) (v := ?v5) rfl (by kernel_rfl) (by kernel_rfl) (by kernel_rfl) (fun _ _ _ h => h) (Or.inl ⟨by kernel_rfl, ?h5⟩) hHeld ?_
  case h5 => intro u hSw; (try dsimp only at hSw); go_simp; try with_reducible rfl
  try simp only [List.getElem_toArray]
  try simp only [List.getElem_cons_succ]
  try simp only [List.getElem_cons_zero]
  try simp only [Act.put]
  try simp only [List.setIfInBounds_toArray]
  try simp only [List.set]
  refine wpAnyH_take (i := 5) (v := ?v6) rfl (by kernel_rfl) (by kernel_rfl) (by kernel_rfl) (fun _ _ _ h => h) (Or.inl ⟨by kernel_rfl, ?h6⟩) hHeld ?_
  case h6 => intro u hSw; obtain ⟨c0, c1, c2, _⟩ := hSw; go_simp; try with_reducible rfl
  try simp only [List.getElem_toArray]
  try simp only [List.getElem_cons_succ]
  try simp only [List.getElem_cons_zero]
  try simp only [Act.put]
  try simp only [List.setIfInBounds_toArray]
  try simp only [List.set]
  refine wpAnyH_ready (rs := [6]) (by kernel_rfl) (by simp) ?_
  refine AllReadyH.cons rfl (fun K hK => ?_) AllReadyH.nil
  go_simp
  go_wp2_with (go_at_call 60; refine (bytesIn_any a n c P A C Z _ hm (HR.out.below hHeld.2.2.2 (Nat.le_refl _))).mono ?_; rintro e w7 ⟨rfl, hb⟩)
  refine hK.out _ _ (⟨cellUp hb hHeld.1, cellUp hb hHeld.2.1, cellUp hb hHeld.2.2.1, hHeld.2.2.2.trans (hb.mono hHeld.2.2.2.size)⟩) (fun hHeld => ?_)
  clear hK K
  clear hb
  try simp only [Act.put]
  try simp only [List.setIfInBounds_toArray]
  try simp only [List.set]
  have gb : Below w7.heap.size w7 (w7.alloc (.cells #[.int .i64 (tx : Int), .int .i64 (pg : Int), .int .i64 (took Z n : Nat)] 2)) := by go_grown
  refine wpAnyH_ready (rs := [7]) (by kernel_rfl) (by simp) ?_
  refine AllReadyH.cons rfl (fun K hK => ?_) AllReadyH.nil
  go_simp
  refine hK.out _ _ (⟨cellUp gb hHeld.1, cellUp gb hHeld.2.1, cellUp gb hHeld.2.2.1, hHeld.2.2.2.trans (gb.mono hHeld.2.2.2.size)⟩) (fun hHeld => ?_)
  clear hK K gb
  try simp only [Act.put]
  try simp only [List.setIfInBounds_toArray]
  try simp only [List.set]
  refine wpAnyH_take (i := 8) (v := ?v7) rfl (by kernel_rfl) (by kernel_rfl) (by kernel_rfl) (fun _ _ _ h => h) (Or.inl ⟨by kernel_rfl, ?h7⟩) hHeld ?_
  case h7 => intro u hSw; (try dsimp only at hSw); go_simp; try with_reducible rfl
  try simp only [List.getElem_toArray]
  try simp only [List.getElem_cons_succ]
  try simp only [List.getElem_cons_zero]
  try simp only [Act.put]
  try simp only [List.setIfInBounds_toArray]
  try simp only [List.set]
  refine wpAnyH_done (by kernel_rfl) ?_ _
  have g := hHeld.2.2.2
  clear hHeld
  go_wp2_with fail
  go_ret
  refine ⟨_, rfl, g, fun i hi => ?_⟩
  match i, hi with
  | 0, _ => simp [go_sem, three]
  | 1, _ => simp [go_sem, three]
  | 2, _ => simp [go_sem, three]

set_option maxHeartbeats 1000000 in
theorem numbersOf_3 (tx pg : Nat) (a : Option Addr) (n c : Nat) (P : Nat → Int) (A : Nat → Option Addr) (C : Nat → Nat) (Z : Nat → List Int) (w : World) (hm : n + took Z n ≤ 1048576) (hr : RunsRead w a n P A C Z) :
    Calls Tryd.prog 37 #[.iface 94 (.agg #[.int .i64 (tx : Int), .int .i64 (pg : Int), .slice a n c])] w fun e w' => ∃ g, e = .returned (.slice (some ⟨g, 0, none⟩) 3 3) ∧ Below w.heap.size w w' ∧ ∀ i, i < 3 → w'.cell? ⟨g, i, none⟩ = some (.int .i64 (three tx pg (took Z n) i)) := by
  have f81 := as84_81 (.agg #[.int .i64 (tx : Int), .int .i64 (pg : Int), .slice a n c])
  have f83 := as84_83 (.agg #[.int .i64 (tx : Int), .int .i64 (pg : Int), .slice a n c])
  have f84 := as84_84 (.agg #[.int .i64 (tx : Int), .int .i64 (pg : Int), .slice a n c])
  have HR : Hid (RunsRead w a n P A C Z) := hr
  clear hr
  go_enter Tryd.func37, Tryd.ntmps37
  go_wp2_with fail
  generalize hY : World.alloc w _ = Y
  have gY : Below w.heap.size w Y := by rw [← hY]; go_grown
  have hH : (fun V => V.cell? ⟨w.heap.size, 0, none⟩ = some (.int .i64 (tx : Int)) ∧ V.cell? ⟨w.heap.size, 1, none⟩ = some (.int .i64 (pg : Int)) ∧ V.cell? ⟨w.heap.size, 2, none⟩ = some (.slice a n c) ∧ Below w.heap.size w V) Y := ⟨by rw [← hY]; simp [go_sem], by rw [← hY]; simp [go_sem], by rw [← hY]; simp [go_sem], gY⟩
  have gd : Below Y.heap.size Y Y.drew := (Below.refl _ _).drew
  refine wp_region_held_drew (S := fun V => V.cell? ⟨w.heap.size, 0, none⟩ = some (.int .i64 (tx : Int)) ∧ V.cell? ⟨w.heap.size, 1, none⟩ = some (.int .i64 (pg : Int)) ∧ V.cell? ⟨w.heap.size, 2, none⟩ = some (.slice a n c) ∧ Below w.heap.size w V) (by kernel_rfl) ⟨cellUp gd hH.1, cellUp gd hH.2.1, cellUp gd hH.2.2.1, hH.2.2.2.trans (gd.mono hH.2.2.2.size)⟩ (fun hHeld => ?_)
  generalize Y.drew = D at hHeld ⊢
  clear hY gY hH gd
  refine wpAnyH_take (i := 0) (v := ?v8) rfl (by kernel_rfl) (by kernel_rfl) (by kernel_rfl) (fun _ _ _ h => h) (Or.inl ⟨by kernel_rfl, ?h8⟩) hHeld ?_
  case h8 => intro u hSw; (try dsimp only at hSw); go_simp; try with_reducible rfl
  try simp only [List.getElem_toArray]
  try simp only [List.getElem_cons_succ]
  try simp only [List.getElem_cons_zero]
  try simp only [Act.put]
  try simp only [List.setIfInBounds_toArray]
  try simp only [List.set]
  refine wpAnyH_take (i := 1) (v := ?v9) rfl (by kernel_rfl) (by kernel_rfl) (by kernel_rfl) (fun _ _ _ h => h) (Or.inl ⟨by kernel_rfl, ?h9⟩) hHeld ?_
  case h9 => intro u hSw; obtain ⟨c0, c1, c2, _⟩ := hSw; go_simp; try with_reducible rfl
  try simp only [List.getElem_toArray]
  try simp only [List.getElem_cons_succ]
  try simp only [List.getElem_cons_zero]
  try simp only [Act.put]
  try simp only [List.setIfInBounds_toArray]
  try simp only [List.set]
  refine wpAnyH_take (i := 2) (v := ?v10) rfl (by kernel_rfl) (by kernel_rfl) (by kernel_rfl) (fun _ _ _ h => h) (Or.inl ⟨by kernel_rfl, ?h10⟩) hHeld ?_
  case h10 => intro u hSw; (try dsimp only at hSw); go_simp; try with_reducible rfl
  try simp only [List.getElem_toArray]
  try simp only [List.getElem_cons_succ]
  try simp only [List.getElem_cons_zero]
  try simp only [Act.put]
  try simp only [List.setIfInBounds_toArray]
  try simp only [List.set]
  refine wpAnyH_take (i := 3) (v := ?v11) rfl (by kernel_rfl) (by kernel_rfl) (by kernel_rfl) (fun _ _ _ h => h) (Or.inl ⟨by kernel_rfl, ?h11⟩) hHeld ?_
  case h11 => intro u hSw; obtain ⟨c0, c1, c2, _⟩ := hSw; go_simp; try with_reducible rfl
  try simp only [List.getElem_toArray]
  try simp only [List.getElem_cons_succ]
  try simp only [List.getElem_cons_zero]
  try simp only [Act.put]
  try simp only [List.setIfInBounds_toArray]
  try simp only [List.set]
  refine wpAnyH_take (i := 4) (v := ?v12) rfl (by kernel_rfl) (by kernel_rfl) (by kernel_rfl) (fun _ _ _ h => h) (Or.inl ⟨by kernel_rfl, ?h12⟩) hHeld ?_
  case h12 => intro u hSw; (try dsimp only at hSw); go_simp; try with_reducible rfl
  try simp only [List.getElem_toArray]
  try simp only [List.getElem_cons_succ]
  try simp only [List.getElem_cons_zero]
  try simp only [Act.put]
  try simp only [List.setIfInBounds_toArray]
  try simp only [List.set]
  refine wpAnyH_take (i := 5) (v := ?v13) rfl (by kernel_rfl) (by kernel_rfl) (by kernel_rfl) (fun _ _ _ h => h) (Or.inl ⟨by kernel_rfl, ?h13⟩) hHeld ?_
  case h13 => intro u hSw; obtain ⟨c0, c1, c2, _⟩ := hSw; go_simp; try with_reducible rfl
  try simp only [List.getElem_toArray]
  try simp only [List.getElem_cons_succ]
  try simp only [List.getElem_cons_zero]
  try simp only [Act.put]
  try simp only [List.setIfInBounds_toArray]
  try simp only [List.set]
  refine wpAnyH_ready (rs := [6]) (by kernel_rfl) (by simp) ?_
  refine AllReadyH.cons rfl (fun K hK => ?_) AllReadyH.nil
  go_simp
  go_wp2_with (go_at_call 60; refine (bytesIn_any a n c P A C Z _ hm (HR.out.below hHeld.2.2.2 (Nat.le_refl _))).mono ?_; rintro e w7 ⟨rfl, hb⟩)
  refine hK.out _ _ (⟨cellUp hb hHeld.1, cellUp hb hHeld.2.1, cellUp hb hHeld.2.2.1, hHeld.2.2.2.trans (hb.mono hHeld.2.2.2.size)⟩) (fun hHeld => ?_)
  clear hK K
  clear hb
  try simp only [Act.put]
  try simp only [List.setIfInBounds_toArray]
  try simp only [List.set]
  have gb : Below w7.heap.size w7 (w7.alloc (.cells #[.int .i64 (tx : Int), .int .i64 (pg : Int), .int .i64 (took Z n : Nat)] 2)) := by go_grown
  refine wpAnyH_ready (rs := [7]) (by kernel_rfl) (by simp) ?_
  refine AllReadyH.cons rfl (fun K hK => ?_) AllReadyH.nil
  go_simp
  refine hK.out _ _ (⟨cellUp gb hHeld.1, cellUp gb hHeld.2.1, cellUp gb hHeld.2.2.1, hHeld.2.2.2.trans (gb.mono hHeld.2.2.2.size)⟩) (fun hHeld => ?_)
  clear hK K gb
  try simp only [Act.put]
  try simp only [List.setIfInBounds_toArray]
  try simp only [List.set]
  refine wpAnyH_take (i := 8) (v := ?v14) rfl (by kernel_rfl) (by kernel_rfl) (by kernel_rfl) (fun _ _ _ h => h) (Or.inl ⟨by kernel_rfl, ?h14⟩) hHeld ?_
  case h14 => intro u hSw; (try dsimp only at hSw); go_simp; try with_reducible rfl
  try simp only [List.getElem_toArray]
  try simp only [List.getElem_cons_succ]
  try simp only [List.getElem_cons_zero]
  try simp only [Act.put]
  try simp only [List.setIfInBounds_toArray]
  try simp only [List.set]
  refine wpAnyH_done (by kernel_rfl) ?_ _
  have g := hHeld.2.2.2
  clear hHeld
  go_wp2_with fail
  go_ret
  refine ⟨_, rfl, g, fun i hi => ?_⟩
  match i, hi with
  | 0, _ => simp [go_sem, three]
  | 1, _ => simp [go_sem, three]
  | 2, _ => simp [go_sem, three]

set_option maxHeartbeats 1000000 in
theorem numbersOf_4 (tx pg : Nat) (a : Option Addr) (n c : Nat) (P : Nat → Int) (A : Nat → Option Addr) (C : Nat → Nat) (Z : Nat → List Int) (w : World) (hm : n + took Z n ≤ 1048576) (hr : RunsRead w a n P A C Z) :
    Calls Tryd.prog 37 #[.iface 96 (.agg #[.int .i64 (pg : Int), .slice a n c])] w fun e w' => ∃ g, e = .returned (.slice (some ⟨g, 0, none⟩) 3 3) ∧ Below w.heap.size w w' ∧ ∀ i, i < 3 → w'.cell? ⟨g, i, none⟩ = some (.int .i64 (three 0 pg (took Z n) i)) := by
  have f81 := as86_81 (.agg #[.int .i64 (pg : Int), .slice a n c])
  have f83 := as86_83 (.agg #[.int .i64 (pg : Int), .slice a n c])
  have f84 := as86_84 (.agg #[.int .i64 (pg : Int), .slice a n c])
  have f86 := as86_86 (.agg #[.int .i64 (pg : Int), .slice a n c])
  have HR : Hid (RunsRead w a n P A C Z) := hr
  clear hr
  go_enter Tryd.func37, Tryd.ntmps37
  go_wp2_with fail
  generalize hY : World.alloc w _ = Y
  have gY : Below w.heap.size w Y := by rw [← hY]; go_grown
  have hH : (fun V => V.cell? ⟨w.heap.size, 0, none⟩ = some (.int .i64 (pg : Int)) ∧ V.cell? ⟨w.heap.size, 1, none⟩ = some (.slice a n c) ∧ Below w.heap.size w V) Y := ⟨by rw [← hY]; simp [go_sem], by rw [← hY]; simp [go_sem], gY⟩
  have gd : Below Y.heap.size Y Y.drew := (Below.refl _ _).drew
  refine wp_region_held_drew (S := fun V => V.cell? ⟨w.heap.size, 0, none⟩ = some (.int .i64 (pg : Int)) ∧ V.cell? ⟨w.heap.size, 1, none⟩ = some (.slice a n c) ∧ Below w.heap.size w V) (by kernel_rfl) ⟨cellUp gd hH.1, cellUp gd hH.2.1, hH.2.2.trans (gd.mono hH.2.2.size)⟩ (fun hHeld => ?_)
  generalize Y.drew = D at hHeld ⊢
  clear hY gY hH gd
  refine wpAnyH_take (i := 0) (v := ?v15) rfl (by kernel_rfl) (by kernel_rfl) (by kernel_rfl) (fun _ _ _ h => h) (Or.inl ⟨by kernel_rfl, ?h15⟩) hHeld ?_
  case h15 => intro u hSw; (try dsimp only at hSw); go_simp; try with_reducible rfl
  try simp only [List.getElem_toArray]
  try simp only [List.getElem_cons_succ]
  try simp only [List.getElem_cons_zero]
  try simp only [Act.put]
  try simp only [List.setIfInBounds_toArray]
  try simp only [List.set]
  refine wpAnyH_take (i := 1) (v := ?v16) rfl (by kernel_rfl) (by kernel_rfl) (by kernel_rfl) (fun _ _ _ h => h) (Or.inl ⟨by kernel_rfl, ?h16⟩) hHeld ?_
  case h16 => intro u hSw; obtain ⟨c0, c1, _⟩ := hSw; go_simp; try with_reducible rfl
  try simp only [List.getElem_toArray]
  try simp only [List.getElem_cons_succ]
  try simp only [List.getElem_cons_zero]
  try simp only [Act.put]
  try simp only [List.setIfInBounds_toArray]
  try simp only [List.set]
  refine wpAnyH_take (i := 2) (v := ?v17) rfl (by kernel_rfl) (by kernel_rfl) (by kernel_rfl) (fun _ _ _ h => h) (Or.inl ⟨by kernel_rfl, ?h17⟩) hHeld ?_
  case h17 => intro u hSw; (try dsimp only at hSw); go_simp; try with_reducible rfl
  try simp only [List.getElem_toArray]
  try simp only [List.getElem_cons_succ]
  try simp only [List.getElem_cons_zero]
  try simp only [Act.put]
  try simp only [List.setIfInBounds_toArray]
  try simp only [List.set]
  refine wpAnyH_take (i := 3) (v := ?v18) rfl (by kernel_rfl) (by kernel_rfl) (by kernel_rfl) (fun _ _ _ h => h) (Or.inl ⟨by kernel_rfl, ?h18⟩) hHeld ?_
  case h18 => intro u hSw; obtain ⟨c0, c1, _⟩ := hSw; go_simp; try with_reducible rfl
  try simp only [List.getElem_toArray]
  try simp only [List.getElem_cons_succ]
  try simp only [List.getElem_cons_zero]
  try simp only [Act.put]
  try simp only [List.setIfInBounds_toArray]
  try simp only [List.set]
  refine wpAnyH_ready (rs := [4]) (by kernel_rfl) (by simp) ?_
  refine AllReadyH.cons rfl (fun K hK => ?_) AllReadyH.nil
  go_simp
  go_wp2_with (go_at_call 60; refine (bytesIn_any a n c P A C Z _ hm (HR.out.below hHeld.2.2 (Nat.le_refl _))).mono ?_; rintro e w7 ⟨rfl, hb⟩)
  refine hK.out _ _ (⟨cellUp hb hHeld.1, cellUp hb hHeld.2.1, hHeld.2.2.trans (hb.mono hHeld.2.2.size)⟩) (fun hHeld => ?_)
  clear hK K
  clear hb
  try simp only [Act.put]
  try simp only [List.setIfInBounds_toArray]
  try simp only [List.set]
  have gb : Below w7.heap.size w7 (w7.alloc (.cells #[.int .i64 0, .int .i64 (pg : Int), .int .i64 (took Z n : Nat)] 2)) := by go_grown
  refine wpAnyH_ready (rs := [5]) (by kernel_rfl) (by simp) ?_
  refine AllReadyH.cons rfl (fun K hK => ?_) AllReadyH.nil
  go_simp
  refine hK.out _ _ (⟨cellUp gb hHeld.1, cellUp gb hHeld.2.1, hHeld.2.2.trans (gb.mono hHeld.2.2.size)⟩) (fun hHeld => ?_)
  clear hK K gb
  try simp only [Act.put]
  try simp only [List.setIfInBounds_toArray]
  try simp only [List.set]
  refine wpAnyH_take (i := 6) (v := ?v19) rfl (by kernel_rfl) (by kernel_rfl) (by kernel_rfl) (fun _ _ _ h => h) (Or.inl ⟨by kernel_rfl, ?h19⟩) hHeld ?_
  case h19 => intro u hSw; (try dsimp only at hSw); go_simp; try with_reducible rfl
  try simp only [List.getElem_toArray]
  try simp only [List.getElem_cons_succ]
  try simp only [List.getElem_cons_zero]
  try simp only [Act.put]
  try simp only [List.setIfInBounds_toArray]
  try simp only [List.set]
  refine wpAnyH_done (by kernel_rfl) ?_ _
  have g := hHeld.2.2
  clear hHeld
  go_wp2_with fail
  go_ret
  refine ⟨_, rfl, g, fun i hi => ?_⟩
  match i, hi with
  | 0, _ => simp [go_sem, three]
  | 1, _ => simp [go_sem, three]
  | 2, _ => simp [go_sem, three]

set_option maxHeartbeats 2000000 in
theorem implRecordText_1 (tx pg : Nat) (a : Option Addr) (n c : Nat) (P : Nat → Int) (A : Nat → Option Addr) (C : Nat → Nat) (Z : Nat → List Int) (w : World) (hm : n + took Z n ≤ 1048576) (hz : Hid (∀ i, i < n → (Z i).length ≤ 1048576)) (hr : RunsRead w a n P A C Z) (hq : recQ 1 tx pg n P Z = 0) (htx : tx < 1000000) (hpg : pg < 1000000) (htk : took Z n < 1000000) (hT : Tab w) :
    Calls Tryd.prog 15 #[.agg #[.int .i64 1, .int .i64 (tx : Int), .int .i64 (pg : Int), .slice a n c]] w fun e w' => e = .returned (.agg #[.int .i64 0, .string (txtS ⟨#[98, 101, 103, 105, 110]⟩ (one tx) 1)]) ∧ Below w.heap.size w w' := by
  have HR : Hid (RunsRead w a n P A C Z) := hr
  have HQ : Hid (recQ 1 tx pg n P Z = 0) := hq
  have HT : Hid (∀ X, Below w.heap.size w X → Tab X) := fun X gX => hT.below gX
  have HX : Hid (∀ i, i < 1 → (one tx) i < 1000000) := fun i hi => by unfold one; omega
  have HSz : Hid (∀ j, j ≤ 1 → (txtS ⟨#[98, 101, 103, 105, 110]⟩ (one tx) j).size ≤ 10 + 22 * j) := fun j hj => txtS_size (by decide) j (fun i hi => HX.out i (by omega))
  clear hr hq hT
  go_enter Tryd.func15, Tryd.ntmps15
  go_upto_region 1 with (fail)
  generalize hY : World.alloc _ _ = Y
  have g : Below w.heap.size w Y := by rw [← hY]; go_grown
  have hB : RcAtT Y w.heap.size 1 tx pg a n c := by rw [← hY]; exact ⟨by simp [go_sem], by simp [go_sem], by simp [go_sem], by simp [go_sem]⟩
  have y0 : Y.cell? ⟨w.heap.size + 1, 0, none⟩ = some (.int .i64 0) := by rw [← hY]; simp [go_sem]
  have y1 : Y.cell? ⟨w.heap.size + 1, 1, none⟩ = some (.string ⟨#[]⟩) := by rw [← hY]; simp [go_sem]
  have v0 : Y.frozen? ⟨w.heap.size + 1, 0, none⟩ = false := by rw [← hY]; simp [go_sem]
  have v1 : Y.frozen? ⟨w.heap.size + 1, 1, none⟩ = false := by rw [← hY]; simp [go_sem]
  have hs : w.heap.size + 2 ≤ Y.heap.size := by rw [← hY]; simp
  clear hY
  have hO : OutT Y (w.heap.size + 1) := ⟨y0, y1, v0, v1⟩
  clear y0 y1 v0 v1
  have hB0 := hB
  obtain ⟨c0, c1, c2, c3⟩ := hB0
  go_wp2_with fail
  refine (implRecordFault_any 1 tx pg a n c P A C Z _ (by omega) hz (HR.out.below g (Nat.le_refl _))).mono ?_
  rintro e w1 ⟨rfl, g1⟩
  rw [HQ.out]
  have hB := hB.up g1
  have hO := hO.below g1
  have g : Below w.heap.size w w1 := g.trans (g1.mono g.size)
  clear g1 c0 c1 c2 c3
  have hB0 := hB
  obtain ⟨c0, c1, c2, c3⟩ := hB0
  go_wp2_with fail
  refine (happeningOf_1 tx pg a n c _).mono ?_
  rintro e w2 ⟨rfl, g1⟩
  have hO := hO.below g1
  have g : Below w.heap.size w w2 := g.trans (g1.mono g.size)
  clear g1 c0 c1 c2 c3 hB
  go_wp2_with fail
  refine (word_1 tx pg a n c _).mono ?_
  rintro e w3 ⟨rfl, g1⟩
  have hO := hO.below g1
  have g : Below w.heap.size w w3 := g.trans (g1.mono g.size)
  clear g1
  go_wp2_with fail
  refine (numbersOf_1 tx _).mono ?_
  rintro e w4 ⟨gn, rfl, g1, hcn⟩
  have hO := hO.below g1
  have g : Below w.heap.size w w4 := g.trans (g1.mono g.size)
  have HCn : Hid (∀ i, i < 1 → w4.cell? ⟨gn, i, none⟩ = some (.int .i64 ((one tx) i))) := hcn
  have HW0 : Hid (txtS ⟨#[98, 101, 103, 105, 110]⟩ (one tx) 0 = ⟨#[98, 101, 103, 105, 110]⟩) := rfl
  clear g1 hcn
  have HE : Hid (∀ wd' xs', wd' = (⟨#[98, 101, 103, 105, 110]⟩ : ByteArray) → xs' = (one tx) → txtS ⟨#[98, 101, 103, 105, 110]⟩ (one tx) 1 = txtS wd' xs' 1) := by rintro _ _ rfl rfl; rfl
  generalize hxs : (one tx) = xs at HCn HX HSz HW0
  generalize hwd : (⟨#[98, 101, 103, 105, 110]⟩ : ByteArray) = wd at HSz HW0 ⊢
  have HE : Hid (txtS ⟨#[98, 101, 103, 105, 110]⟩ (one tx) 1 = txtS wd xs 1) := HE.out wd xs hwd.symm hxs.symm
  clear hxs hwd
  go_wp2_with fail
  go_loopw [21, 5] (fun i s wr => ∃ j : Nat, j ≤ 1 ∧ i = .int .i64 j ∧ s = .string (txtS wd xs j) ∧ Below w4.heap.size w4 wr) (fun i _ _ => 1 - (intOf i).toNat)
  case atStart => exact ⟨0, Nat.zero_le _, rfl, by rw [HW0.out], Below.refl _ _⟩
  case round =>
    obtain ⟨j, hj, rfl, rfl, gr⟩ := hrel
    by_cases hlt : j < 1
    · have hjn : (j : Int) < 1 := by omega
      have e0 : wr.cell? ⟨gn, j, none⟩ = some (.int .i64 (xs j)) := cellUp gr (HCn.out j hlt)
      have hs1 := HSz.out j hj
      have hx := HX.out j hlt
      have hs2 := decS_size (xs j) hx
      have HS : Hid (txtS wd xs (j + 1) = txtS wd xs j ++ (⟨#[32]⟩ ++ decS (xs j))) := rfl
      obtain ⟨x, hxv⟩ : ∃ x, x = xs j := ⟨_, rfl⟩
      obtain ⟨T, hTv⟩ : ∃ T, T = txtS wd xs j := ⟨_, rfl⟩
      rw [← hxv] at e0 hx hs2 HS
      rw [← hTv] at hs1 HS ⊢
      clear hxv hTv
      go_wp2_with fail
      refine (numberText_any x hx _ (HT.out _ (g.trans (gr.mono g.size)))).mono ?_
      rintro e w5 ⟨rfl, g5⟩
      have gr := gr.trans (g5.mono gr.size)
      have z1 : ¬ 9223372036854775807 < 1 + (decS x).size := by omega
      have z2 : ¬ 9223372036854775807 < T.size + (1 + (decS x).size) := by omega
      clear g5 e0
      go_wp2_with fail
      go_roundw
      case rel => exact ⟨j + 1, by omega, by go_num, by rw [HS.out], gr⟩
      case measure => simp [intOf]; omega
    · have e : j = 1 := by omega
      subst e
      have hO := hO.below gr
      have g : Below w.heap.size w wr := g.trans (gr.mono g.size)
      obtain ⟨r0, r1, r2, r3⟩ := hO
      clear gr
      generalize txtS wd xs 1 = T at HE ⊢
      go_wp2_with fail
      refine bodyPost_ret (v := .agg #[.int .i64 0, .string T]) (by simp [results, Tryd.results15, go_sem, r0, r1]) rfl ?_
      exact ⟨by rw [HE.out], by go_grown⟩

set_option maxHeartbeats 2000000 in
theorem implRecordText_2 (tx pg : Nat) (a : Option Addr) (n c : Nat) (P : Nat → Int) (A : Nat → Option Addr) (C : Nat → Nat) (Z : Nat → List Int) (w : World) (hm : n + took Z n ≤ 1048576) (hz : Hid (∀ i, i < n → (Z i).length ≤ 1048576)) (hr : RunsRead w a n P A C Z) (hq : recQ 2 tx pg n P Z = 0) (htx : tx < 1000000) (hpg : pg < 1000000) (htk : took Z n < 1000000) (hT : Tab w) :
    Calls Tryd.prog 15 #[.agg #[.int .i64 2, .int .i64 (tx : Int), .int .i64 (pg : Int), .slice a n c]] w fun e w' => e = .returned (.agg #[.int .i64 0, .string (txtS ⟨#[100, 101, 108, 116, 97]⟩ (three tx pg (took Z n)) 3)]) ∧ Below w.heap.size w w' := by
  have HR : Hid (RunsRead w a n P A C Z) := hr
  have HQ : Hid (recQ 2 tx pg n P Z = 0) := hq
  have HT : Hid (∀ X, Below w.heap.size w X → Tab X) := fun X gX => hT.below gX
  have HX : Hid (∀ i, i < 3 → (three tx pg (took Z n)) i < 1000000) := fun i hi => by unfold three; split; omega; split; omega; omega
  have HSz : Hid (∀ j, j ≤ 3 → (txtS ⟨#[100, 101, 108, 116, 97]⟩ (three tx pg (took Z n)) j).size ≤ 10 + 22 * j) := fun j hj => txtS_size (by decide) j (fun i hi => HX.out i (by omega))
  clear hr hq hT
  go_enter Tryd.func15, Tryd.ntmps15
  go_upto_region 1 with (fail)
  generalize hY : World.alloc _ _ = Y
  have g : Below w.heap.size w Y := by rw [← hY]; go_grown
  have hB : RcAtT Y w.heap.size 2 tx pg a n c := by rw [← hY]; exact ⟨by simp [go_sem], by simp [go_sem], by simp [go_sem], by simp [go_sem]⟩
  have y0 : Y.cell? ⟨w.heap.size + 1, 0, none⟩ = some (.int .i64 0) := by rw [← hY]; simp [go_sem]
  have y1 : Y.cell? ⟨w.heap.size + 1, 1, none⟩ = some (.string ⟨#[]⟩) := by rw [← hY]; simp [go_sem]
  have v0 : Y.frozen? ⟨w.heap.size + 1, 0, none⟩ = false := by rw [← hY]; simp [go_sem]
  have v1 : Y.frozen? ⟨w.heap.size + 1, 1, none⟩ = false := by rw [← hY]; simp [go_sem]
  have hs : w.heap.size + 2 ≤ Y.heap.size := by rw [← hY]; simp
  clear hY
  have hO : OutT Y (w.heap.size + 1) := ⟨y0, y1, v0, v1⟩
  clear y0 y1 v0 v1
  have hB0 := hB
  obtain ⟨c0, c1, c2, c3⟩ := hB0
  go_wp2_with fail
  refine (implRecordFault_any 2 tx pg a n c P A C Z _ (by omega) hz (HR.out.below g (Nat.le_refl _))).mono ?_
  rintro e w1 ⟨rfl, g1⟩
  rw [HQ.out]
  have hB := hB.up g1
  have hO := hO.below g1
  have g : Below w.heap.size w w1 := g.trans (g1.mono g.size)
  clear g1 c0 c1 c2 c3
  have hB0 := hB
  obtain ⟨c0, c1, c2, c3⟩ := hB0
  go_wp2_with fail
  refine (happeningOf_2 tx pg a n c _).mono ?_
  rintro e w2 ⟨rfl, g1⟩
  have hO := hO.below g1
  have g : Below w.heap.size w w2 := g.trans (g1.mono g.size)
  clear g1 c0 c1 c2 c3 hB
  go_wp2_with fail
  refine (word_2 tx pg a n c _).mono ?_
  rintro e w3 ⟨rfl, g1⟩
  have hO := hO.below g1
  have g : Below w.heap.size w w3 := g.trans (g1.mono g.size)
  clear g1
  go_wp2_with fail
  refine (numbersOf_2 tx pg a n c P A C Z _ hm (HR.out.below g (Nat.le_refl _))).mono ?_
  rintro e w4 ⟨gn, rfl, g1, hcn⟩
  have hO := hO.below g1
  have g : Below w.heap.size w w4 := g.trans (g1.mono g.size)
  have HCn : Hid (∀ i, i < 3 → w4.cell? ⟨gn, i, none⟩ = some (.int .i64 ((three tx pg (took Z n)) i))) := hcn
  have HW0 : Hid (txtS ⟨#[100, 101, 108, 116, 97]⟩ (three tx pg (took Z n)) 0 = ⟨#[100, 101, 108, 116, 97]⟩) := rfl
  clear g1 hcn
  have HE : Hid (∀ wd' xs', wd' = (⟨#[100, 101, 108, 116, 97]⟩ : ByteArray) → xs' = (three tx pg (took Z n)) → txtS ⟨#[100, 101, 108, 116, 97]⟩ (three tx pg (took Z n)) 3 = txtS wd' xs' 3) := by rintro _ _ rfl rfl; rfl
  generalize hxs : (three tx pg (took Z n)) = xs at HCn HX HSz HW0
  generalize hwd : (⟨#[100, 101, 108, 116, 97]⟩ : ByteArray) = wd at HSz HW0 ⊢
  have HE : Hid (txtS ⟨#[100, 101, 108, 116, 97]⟩ (three tx pg (took Z n)) 3 = txtS wd xs 3) := HE.out wd xs hwd.symm hxs.symm
  clear hxs hwd
  go_wp2_with fail
  go_loopw [21, 5] (fun i s wr => ∃ j : Nat, j ≤ 3 ∧ i = .int .i64 j ∧ s = .string (txtS wd xs j) ∧ Below w4.heap.size w4 wr) (fun i _ _ => 3 - (intOf i).toNat)
  case atStart => exact ⟨0, Nat.zero_le _, rfl, by rw [HW0.out], Below.refl _ _⟩
  case round =>
    obtain ⟨j, hj, rfl, rfl, gr⟩ := hrel
    by_cases hlt : j < 3
    · have hjn : (j : Int) < 3 := by omega
      have e0 : wr.cell? ⟨gn, j, none⟩ = some (.int .i64 (xs j)) := cellUp gr (HCn.out j hlt)
      have hs1 := HSz.out j hj
      have hx := HX.out j hlt
      have hs2 := decS_size (xs j) hx
      have HS : Hid (txtS wd xs (j + 1) = txtS wd xs j ++ (⟨#[32]⟩ ++ decS (xs j))) := rfl
      obtain ⟨x, hxv⟩ : ∃ x, x = xs j := ⟨_, rfl⟩
      obtain ⟨T, hTv⟩ : ∃ T, T = txtS wd xs j := ⟨_, rfl⟩
      rw [← hxv] at e0 hx hs2 HS
      rw [← hTv] at hs1 HS ⊢
      clear hxv hTv
      go_wp2_with fail
      refine (numberText_any x hx _ (HT.out _ (g.trans (gr.mono g.size)))).mono ?_
      rintro e w5 ⟨rfl, g5⟩
      have gr := gr.trans (g5.mono gr.size)
      have z1 : ¬ 9223372036854775807 < 1 + (decS x).size := by omega
      have z2 : ¬ 9223372036854775807 < T.size + (1 + (decS x).size) := by omega
      clear g5 e0
      go_wp2_with fail
      go_roundw
      case rel => exact ⟨j + 1, by omega, by go_num, by rw [HS.out], gr⟩
      case measure => simp [intOf]; omega
    · have e : j = 3 := by omega
      subst e
      have hO := hO.below gr
      have g : Below w.heap.size w wr := g.trans (gr.mono g.size)
      obtain ⟨r0, r1, r2, r3⟩ := hO
      clear gr
      generalize txtS wd xs 3 = T at HE ⊢
      go_wp2_with fail
      refine bodyPost_ret (v := .agg #[.int .i64 0, .string T]) (by simp [results, Tryd.results15, go_sem, r0, r1]) rfl ?_
      exact ⟨by rw [HE.out], by go_grown⟩

set_option maxHeartbeats 2000000 in
theorem implRecordText_3 (tx pg : Nat) (a : Option Addr) (n c : Nat) (P : Nat → Int) (A : Nat → Option Addr) (C : Nat → Nat) (Z : Nat → List Int) (w : World) (hm : n + took Z n ≤ 1048576) (hz : Hid (∀ i, i < n → (Z i).length ≤ 1048576)) (hr : RunsRead w a n P A C Z) (hq : recQ 3 tx pg n P Z = 0) (htx : tx < 1000000) (hpg : pg < 1000000) (htk : took Z n < 1000000) (hT : Tab w) :
    Calls Tryd.prog 15 #[.agg #[.int .i64 3, .int .i64 (tx : Int), .int .i64 (pg : Int), .slice a n c]] w fun e w' => e = .returned (.agg #[.int .i64 0, .string (txtS ⟨#[99, 111, 109, 112]⟩ (three tx pg (took Z n)) 3)]) ∧ Below w.heap.size w w' := by
  have HR : Hid (RunsRead w a n P A C Z) := hr
  have HQ : Hid (recQ 3 tx pg n P Z = 0) := hq
  have HT : Hid (∀ X, Below w.heap.size w X → Tab X) := fun X gX => hT.below gX
  have HX : Hid (∀ i, i < 3 → (three tx pg (took Z n)) i < 1000000) := fun i hi => by unfold three; split; omega; split; omega; omega
  have HSz : Hid (∀ j, j ≤ 3 → (txtS ⟨#[99, 111, 109, 112]⟩ (three tx pg (took Z n)) j).size ≤ 10 + 22 * j) := fun j hj => txtS_size (by decide) j (fun i hi => HX.out i (by omega))
  clear hr hq hT
  go_enter Tryd.func15, Tryd.ntmps15
  go_upto_region 1 with (fail)
  generalize hY : World.alloc _ _ = Y
  have g : Below w.heap.size w Y := by rw [← hY]; go_grown
  have hB : RcAtT Y w.heap.size 3 tx pg a n c := by rw [← hY]; exact ⟨by simp [go_sem], by simp [go_sem], by simp [go_sem], by simp [go_sem]⟩
  have y0 : Y.cell? ⟨w.heap.size + 1, 0, none⟩ = some (.int .i64 0) := by rw [← hY]; simp [go_sem]
  have y1 : Y.cell? ⟨w.heap.size + 1, 1, none⟩ = some (.string ⟨#[]⟩) := by rw [← hY]; simp [go_sem]
  have v0 : Y.frozen? ⟨w.heap.size + 1, 0, none⟩ = false := by rw [← hY]; simp [go_sem]
  have v1 : Y.frozen? ⟨w.heap.size + 1, 1, none⟩ = false := by rw [← hY]; simp [go_sem]
  have hs : w.heap.size + 2 ≤ Y.heap.size := by rw [← hY]; simp
  clear hY
  have hO : OutT Y (w.heap.size + 1) := ⟨y0, y1, v0, v1⟩
  clear y0 y1 v0 v1
  have hB0 := hB
  obtain ⟨c0, c1, c2, c3⟩ := hB0
  go_wp2_with fail
  refine (implRecordFault_any 3 tx pg a n c P A C Z _ (by omega) hz (HR.out.below g (Nat.le_refl _))).mono ?_
  rintro e w1 ⟨rfl, g1⟩
  rw [HQ.out]
  have hB := hB.up g1
  have hO := hO.below g1
  have g : Below w.heap.size w w1 := g.trans (g1.mono g.size)
  clear g1 c0 c1 c2 c3
  have hB0 := hB
  obtain ⟨c0, c1, c2, c3⟩ := hB0
  go_wp2_with fail
  refine (happeningOf_3 tx pg a n c _).mono ?_
  rintro e w2 ⟨rfl, g1⟩
  have hO := hO.below g1
  have g : Below w.heap.size w w2 := g.trans (g1.mono g.size)
  clear g1 c0 c1 c2 c3 hB
  go_wp2_with fail
  refine (word_3 tx pg a n c _).mono ?_
  rintro e w3 ⟨rfl, g1⟩
  have hO := hO.below g1
  have g : Below w.heap.size w w3 := g.trans (g1.mono g.size)
  clear g1
  go_wp2_with fail
  refine (numbersOf_3 tx pg a n c P A C Z _ hm (HR.out.below g (Nat.le_refl _))).mono ?_
  rintro e w4 ⟨gn, rfl, g1, hcn⟩
  have hO := hO.below g1
  have g : Below w.heap.size w w4 := g.trans (g1.mono g.size)
  have HCn : Hid (∀ i, i < 3 → w4.cell? ⟨gn, i, none⟩ = some (.int .i64 ((three tx pg (took Z n)) i))) := hcn
  have HW0 : Hid (txtS ⟨#[99, 111, 109, 112]⟩ (three tx pg (took Z n)) 0 = ⟨#[99, 111, 109, 112]⟩) := rfl
  clear g1 hcn
  have HE : Hid (∀ wd' xs', wd' = (⟨#[99, 111, 109, 112]⟩ : ByteArray) → xs' = (three tx pg (took Z n)) → txtS ⟨#[99, 111, 109, 112]⟩ (three tx pg (took Z n)) 3 = txtS wd' xs' 3) := by rintro _ _ rfl rfl; rfl
  generalize hxs : (three tx pg (took Z n)) = xs at HCn HX HSz HW0
  generalize hwd : (⟨#[99, 111, 109, 112]⟩ : ByteArray) = wd at HSz HW0 ⊢
  have HE : Hid (txtS ⟨#[99, 111, 109, 112]⟩ (three tx pg (took Z n)) 3 = txtS wd xs 3) := HE.out wd xs hwd.symm hxs.symm
  clear hxs hwd
  go_wp2_with fail
  go_loopw [21, 5] (fun i s wr => ∃ j : Nat, j ≤ 3 ∧ i = .int .i64 j ∧ s = .string (txtS wd xs j) ∧ Below w4.heap.size w4 wr) (fun i _ _ => 3 - (intOf i).toNat)
  case atStart => exact ⟨0, Nat.zero_le _, rfl, by rw [HW0.out], Below.refl _ _⟩
  case round =>
    obtain ⟨j, hj, rfl, rfl, gr⟩ := hrel
    by_cases hlt : j < 3
    · have hjn : (j : Int) < 3 := by omega
      have e0 : wr.cell? ⟨gn, j, none⟩ = some (.int .i64 (xs j)) := cellUp gr (HCn.out j hlt)
      have hs1 := HSz.out j hj
      have hx := HX.out j hlt
      have hs2 := decS_size (xs j) hx
      have HS : Hid (txtS wd xs (j + 1) = txtS wd xs j ++ (⟨#[32]⟩ ++ decS (xs j))) := rfl
      obtain ⟨x, hxv⟩ : ∃ x, x = xs j := ⟨_, rfl⟩
      obtain ⟨T, hTv⟩ : ∃ T, T = txtS wd xs j := ⟨_, rfl⟩
      rw [← hxv] at e0 hx hs2 HS
      rw [← hTv] at hs1 HS ⊢
      clear hxv hTv
      go_wp2_with fail
      refine (numberText_any x hx _ (HT.out _ (g.trans (gr.mono g.size)))).mono ?_
      rintro e w5 ⟨rfl, g5⟩
      have gr := gr.trans (g5.mono gr.size)
      have z1 : ¬ 9223372036854775807 < 1 + (decS x).size := by omega
      have z2 : ¬ 9223372036854775807 < T.size + (1 + (decS x).size) := by omega
      clear g5 e0
      go_wp2_with fail
      go_roundw
      case rel => exact ⟨j + 1, by omega, by go_num, by rw [HS.out], gr⟩
      case measure => simp [intOf]; omega
    · have e : j = 3 := by omega
      subst e
      have hO := hO.below gr
      have g : Below w.heap.size w wr := g.trans (gr.mono g.size)
      obtain ⟨r0, r1, r2, r3⟩ := hO
      clear gr
      generalize txtS wd xs 3 = T at HE ⊢
      go_wp2_with fail
      refine bodyPost_ret (v := .agg #[.int .i64 0, .string T]) (by simp [results, Tryd.results15, go_sem, r0, r1]) rfl ?_
      exact ⟨by rw [HE.out], by go_grown⟩

set_option maxHeartbeats 2000000 in
theorem implRecordText_4 (tx pg : Nat) (a : Option Addr) (n c : Nat) (P : Nat → Int) (A : Nat → Option Addr) (C : Nat → Nat) (Z : Nat → List Int) (w : World) (hm : n + took Z n ≤ 1048576) (hz : Hid (∀ i, i < n → (Z i).length ≤ 1048576)) (hr : RunsRead w a n P A C Z) (hq : recQ 4 tx pg n P Z = 0) (htx : tx < 1000000) (hpg : pg < 1000000) (htk : took Z n < 1000000) (hT : Tab w) :
    Calls Tryd.prog 15 #[.agg #[.int .i64 4, .int .i64 (tx : Int), .int .i64 (pg : Int), .slice a n c]] w fun e w' => e = .returned (.agg #[.int .i64 0, .string (txtS ⟨#[105, 109, 97, 103, 101]⟩ (three 0 pg (took Z n)) 3)]) ∧ Below w.heap.size w w' := by
  have HR : Hid (RunsRead w a n P A C Z) := hr
  have HQ : Hid (recQ 4 tx pg n P Z = 0) := hq
  have HT : Hid (∀ X, Below w.heap.size w X → Tab X) := fun X gX => hT.below gX
  have HX : Hid (∀ i, i < 3 → (three 0 pg (took Z n)) i < 1000000) := fun i hi => by unfold three; split; omega; split; omega; omega
  have HSz : Hid (∀ j, j ≤ 3 → (txtS ⟨#[105, 109, 97, 103, 101]⟩ (three 0 pg (took Z n)) j).size ≤ 10 + 22 * j) := fun j hj => txtS_size (by decide) j (fun i hi => HX.out i (by omega))
  clear hr hq hT
  go_enter Tryd.func15, Tryd.ntmps15
  go_upto_region 1 with (fail)
  generalize hY : World.alloc _ _ = Y
  have g : Below w.heap.size w Y := by rw [← hY]; go_grown
  have hB : RcAtT Y w.heap.size 4 tx pg a n c := by rw [← hY]; exact ⟨by simp [go_sem], by simp [go_sem], by simp [go_sem], by simp [go_sem]⟩
  have y0 : Y.cell? ⟨w.heap.size + 1, 0, none⟩ = some (.int .i64 0) := by rw [← hY]; simp [go_sem]
  have y1 : Y.cell? ⟨w.heap.size + 1, 1, none⟩ = some (.string ⟨#[]⟩) := by rw [← hY]; simp [go_sem]
  have v0 : Y.frozen? ⟨w.heap.size + 1, 0, none⟩ = false := by rw [← hY]; simp [go_sem]
  have v1 : Y.frozen? ⟨w.heap.size + 1, 1, none⟩ = false := by rw [← hY]; simp [go_sem]
  have hs : w.heap.size + 2 ≤ Y.heap.size := by rw [← hY]; simp
  clear hY
  have hO : OutT Y (w.heap.size + 1) := ⟨y0, y1, v0, v1⟩
  clear y0 y1 v0 v1
  have hB0 := hB
  obtain ⟨c0, c1, c2, c3⟩ := hB0
  go_wp2_with fail
  refine (implRecordFault_any 4 tx pg a n c P A C Z _ (by omega) hz (HR.out.below g (Nat.le_refl _))).mono ?_
  rintro e w1 ⟨rfl, g1⟩
  rw [HQ.out]
  have hB := hB.up g1
  have hO := hO.below g1
  have g : Below w.heap.size w w1 := g.trans (g1.mono g.size)
  clear g1 c0 c1 c2 c3
  have hB0 := hB
  obtain ⟨c0, c1, c2, c3⟩ := hB0
  go_wp2_with fail
  refine (happeningOf_4 tx pg a n c _).mono ?_
  rintro e w2 ⟨rfl, g1⟩
  have hO := hO.below g1
  have g : Below w.heap.size w w2 := g.trans (g1.mono g.size)
  clear g1 c0 c1 c2 c3 hB
  go_wp2_with fail
  refine (word_4 tx pg a n c _).mono ?_
  rintro e w3 ⟨rfl, g1⟩
  have hO := hO.below g1
  have g : Below w.heap.size w w3 := g.trans (g1.mono g.size)
  clear g1
  go_wp2_with fail
  refine (numbersOf_4 tx pg a n c P A C Z _ hm (HR.out.below g (Nat.le_refl _))).mono ?_
  rintro e w4 ⟨gn, rfl, g1, hcn⟩
  have hO := hO.below g1
  have g : Below w.heap.size w w4 := g.trans (g1.mono g.size)
  have HCn : Hid (∀ i, i < 3 → w4.cell? ⟨gn, i, none⟩ = some (.int .i64 ((three 0 pg (took Z n)) i))) := hcn
  have HW0 : Hid (txtS ⟨#[105, 109, 97, 103, 101]⟩ (three 0 pg (took Z n)) 0 = ⟨#[105, 109, 97, 103, 101]⟩) := rfl
  clear g1 hcn
  have HE : Hid (∀ wd' xs', wd' = (⟨#[105, 109, 97, 103, 101]⟩ : ByteArray) → xs' = (three 0 pg (took Z n)) → txtS ⟨#[105, 109, 97, 103, 101]⟩ (three 0 pg (took Z n)) 3 = txtS wd' xs' 3) := by rintro _ _ rfl rfl; rfl
  generalize hxs : (three 0 pg (took Z n)) = xs at HCn HX HSz HW0
  generalize hwd : (⟨#[105, 109, 97, 103, 101]⟩ : ByteArray) = wd at HSz HW0 ⊢
  have HE : Hid (txtS ⟨#[105, 109, 97, 103, 101]⟩ (three 0 pg (took Z n)) 3 = txtS wd xs 3) := HE.out wd xs hwd.symm hxs.symm
  clear hxs hwd
  go_wp2_with fail
  go_loopw [21, 5] (fun i s wr => ∃ j : Nat, j ≤ 3 ∧ i = .int .i64 j ∧ s = .string (txtS wd xs j) ∧ Below w4.heap.size w4 wr) (fun i _ _ => 3 - (intOf i).toNat)
  case atStart => exact ⟨0, Nat.zero_le _, rfl, by rw [HW0.out], Below.refl _ _⟩
  case round =>
    obtain ⟨j, hj, rfl, rfl, gr⟩ := hrel
    by_cases hlt : j < 3
    · have hjn : (j : Int) < 3 := by omega
      have e0 : wr.cell? ⟨gn, j, none⟩ = some (.int .i64 (xs j)) := cellUp gr (HCn.out j hlt)
      have hs1 := HSz.out j hj
      have hx := HX.out j hlt
      have hs2 := decS_size (xs j) hx
      have HS : Hid (txtS wd xs (j + 1) = txtS wd xs j ++ (⟨#[32]⟩ ++ decS (xs j))) := rfl
      obtain ⟨x, hxv⟩ : ∃ x, x = xs j := ⟨_, rfl⟩
      obtain ⟨T, hTv⟩ : ∃ T, T = txtS wd xs j := ⟨_, rfl⟩
      rw [← hxv] at e0 hx hs2 HS
      rw [← hTv] at hs1 HS ⊢
      clear hxv hTv
      go_wp2_with fail
      refine (numberText_any x hx _ (HT.out _ (g.trans (gr.mono g.size)))).mono ?_
      rintro e w5 ⟨rfl, g5⟩
      have gr := gr.trans (g5.mono gr.size)
      have z1 : ¬ 9223372036854775807 < 1 + (decS x).size := by omega
      have z2 : ¬ 9223372036854775807 < T.size + (1 + (decS x).size) := by omega
      clear g5 e0
      go_wp2_with fail
      go_roundw
      case rel => exact ⟨j + 1, by omega, by go_num, by rw [HS.out], gr⟩
      case measure => simp [intOf]; omega
    · have e : j = 3 := by omega
      subst e
      have hO := hO.below gr
      have g : Below w.heap.size w wr := g.trans (gr.mono g.size)
      obtain ⟨r0, r1, r2, r3⟩ := hO
      clear gr
      generalize txtS wd xs 3 = T at HE ⊢
      go_wp2_with fail
      refine bodyPost_ret (v := .agg #[.int .i64 0, .string T]) (by simp [results, Tryd.results15, go_sem, r0, r1]) rfl ?_
      exact ⟨by rw [HE.out], by go_grown⟩

set_option maxHeartbeats 2000000 in
theorem implRecordText_5 (tx pg : Nat) (a : Option Addr) (n c : Nat) (P : Nat → Int) (A : Nat → Option Addr) (C : Nat → Nat) (Z : Nat → List Int) (w : World) (hm : n + took Z n ≤ 1048576) (hz : Hid (∀ i, i < n → (Z i).length ≤ 1048576)) (hr : RunsRead w a n P A C Z) (hq : recQ 5 tx pg n P Z = 0) (htx : tx < 1000000) (hpg : pg < 1000000) (htk : took Z n < 1000000) (hT : Tab w) :
    Calls Tryd.prog 15 #[.agg #[.int .i64 5, .int .i64 (tx : Int), .int .i64 (pg : Int), .slice a n c]] w fun e w' => e = .returned (.agg #[.int .i64 0, .string (txtS ⟨#[99, 111, 109, 109, 105, 116]⟩ (one tx) 1)]) ∧ Below w.heap.size w w' := by
  have HR : Hid (RunsRead w a n P A C Z) := hr
  have HQ : Hid (recQ 5 tx pg n P Z = 0) := hq
  have HT : Hid (∀ X, Below w.heap.size w X → Tab X) := fun X gX => hT.below gX
  have HX : Hid (∀ i, i < 1 → (one tx) i < 1000000) := fun i hi => by unfold one; omega
  have HSz : Hid (∀ j, j ≤ 1 → (txtS ⟨#[99, 111, 109, 109, 105, 116]⟩ (one tx) j).size ≤ 10 + 22 * j) := fun j hj => txtS_size (by decide) j (fun i hi => HX.out i (by omega))
  clear hr hq hT
  go_enter Tryd.func15, Tryd.ntmps15
  go_upto_region 1 with (fail)
  generalize hY : World.alloc _ _ = Y
  have g : Below w.heap.size w Y := by rw [← hY]; go_grown
  have hB : RcAtT Y w.heap.size 5 tx pg a n c := by rw [← hY]; exact ⟨by simp [go_sem], by simp [go_sem], by simp [go_sem], by simp [go_sem]⟩
  have y0 : Y.cell? ⟨w.heap.size + 1, 0, none⟩ = some (.int .i64 0) := by rw [← hY]; simp [go_sem]
  have y1 : Y.cell? ⟨w.heap.size + 1, 1, none⟩ = some (.string ⟨#[]⟩) := by rw [← hY]; simp [go_sem]
  have v0 : Y.frozen? ⟨w.heap.size + 1, 0, none⟩ = false := by rw [← hY]; simp [go_sem]
  have v1 : Y.frozen? ⟨w.heap.size + 1, 1, none⟩ = false := by rw [← hY]; simp [go_sem]
  have hs : w.heap.size + 2 ≤ Y.heap.size := by rw [← hY]; simp
  clear hY
  have hO : OutT Y (w.heap.size + 1) := ⟨y0, y1, v0, v1⟩
  clear y0 y1 v0 v1
  have hB0 := hB
  obtain ⟨c0, c1, c2, c3⟩ := hB0
  go_wp2_with fail
  refine (implRecordFault_any 5 tx pg a n c P A C Z _ (by omega) hz (HR.out.below g (Nat.le_refl _))).mono ?_
  rintro e w1 ⟨rfl, g1⟩
  rw [HQ.out]
  have hB := hB.up g1
  have hO := hO.below g1
  have g : Below w.heap.size w w1 := g.trans (g1.mono g.size)
  clear g1 c0 c1 c2 c3
  have hB0 := hB
  obtain ⟨c0, c1, c2, c3⟩ := hB0
  go_wp2_with fail
  refine (happeningOf_5 tx pg a n c _).mono ?_
  rintro e w2 ⟨rfl, g1⟩
  have hO := hO.below g1
  have g : Below w.heap.size w w2 := g.trans (g1.mono g.size)
  clear g1 c0 c1 c2 c3 hB
  go_wp2_with fail
  refine (word_5 tx pg a n c _).mono ?_
  rintro e w3 ⟨rfl, g1⟩
  have hO := hO.below g1
  have g : Below w.heap.size w w3 := g.trans (g1.mono g.size)
  clear g1
  go_wp2_with fail
  refine (numbersOf_5 tx _).mono ?_
  rintro e w4 ⟨gn, rfl, g1, hcn⟩
  have hO := hO.below g1
  have g : Below w.heap.size w w4 := g.trans (g1.mono g.size)
  have HCn : Hid (∀ i, i < 1 → w4.cell? ⟨gn, i, none⟩ = some (.int .i64 ((one tx) i))) := hcn
  have HW0 : Hid (txtS ⟨#[99, 111, 109, 109, 105, 116]⟩ (one tx) 0 = ⟨#[99, 111, 109, 109, 105, 116]⟩) := rfl
  clear g1 hcn
  have HE : Hid (∀ wd' xs', wd' = (⟨#[99, 111, 109, 109, 105, 116]⟩ : ByteArray) → xs' = (one tx) → txtS ⟨#[99, 111, 109, 109, 105, 116]⟩ (one tx) 1 = txtS wd' xs' 1) := by rintro _ _ rfl rfl; rfl
  generalize hxs : (one tx) = xs at HCn HX HSz HW0
  generalize hwd : (⟨#[99, 111, 109, 109, 105, 116]⟩ : ByteArray) = wd at HSz HW0 ⊢
  have HE : Hid (txtS ⟨#[99, 111, 109, 109, 105, 116]⟩ (one tx) 1 = txtS wd xs 1) := HE.out wd xs hwd.symm hxs.symm
  clear hxs hwd
  go_wp2_with fail
  go_loopw [21, 5] (fun i s wr => ∃ j : Nat, j ≤ 1 ∧ i = .int .i64 j ∧ s = .string (txtS wd xs j) ∧ Below w4.heap.size w4 wr) (fun i _ _ => 1 - (intOf i).toNat)
  case atStart => exact ⟨0, Nat.zero_le _, rfl, by rw [HW0.out], Below.refl _ _⟩
  case round =>
    obtain ⟨j, hj, rfl, rfl, gr⟩ := hrel
    by_cases hlt : j < 1
    · have hjn : (j : Int) < 1 := by omega
      have e0 : wr.cell? ⟨gn, j, none⟩ = some (.int .i64 (xs j)) := cellUp gr (HCn.out j hlt)
      have hs1 := HSz.out j hj
      have hx := HX.out j hlt
      have hs2 := decS_size (xs j) hx
      have HS : Hid (txtS wd xs (j + 1) = txtS wd xs j ++ (⟨#[32]⟩ ++ decS (xs j))) := rfl
      obtain ⟨x, hxv⟩ : ∃ x, x = xs j := ⟨_, rfl⟩
      obtain ⟨T, hTv⟩ : ∃ T, T = txtS wd xs j := ⟨_, rfl⟩
      rw [← hxv] at e0 hx hs2 HS
      rw [← hTv] at hs1 HS ⊢
      clear hxv hTv
      go_wp2_with fail
      refine (numberText_any x hx _ (HT.out _ (g.trans (gr.mono g.size)))).mono ?_
      rintro e w5 ⟨rfl, g5⟩
      have gr := gr.trans (g5.mono gr.size)
      have z1 : ¬ 9223372036854775807 < 1 + (decS x).size := by omega
      have z2 : ¬ 9223372036854775807 < T.size + (1 + (decS x).size) := by omega
      clear g5 e0
      go_wp2_with fail
      go_roundw
      case rel => exact ⟨j + 1, by omega, by go_num, by rw [HS.out], gr⟩
      case measure => simp [intOf]; omega
    · have e : j = 1 := by omega
      subst e
      have hO := hO.below gr
      have g : Below w.heap.size w wr := g.trans (gr.mono g.size)
      obtain ⟨r0, r1, r2, r3⟩ := hO
      clear gr
      generalize txtS wd xs 1 = T at HE ⊢
      go_wp2_with fail
      refine bodyPost_ret (v := .agg #[.int .i64 0, .string T]) (by simp [results, Tryd.results15, go_sem, r0, r1]) rfl ?_
      exact ⟨by rw [HE.out], by go_grown⟩

set_option maxHeartbeats 2000000 in
theorem implRecordText_6 (tx pg : Nat) (a : Option Addr) (n c : Nat) (P : Nat → Int) (A : Nat → Option Addr) (C : Nat → Nat) (Z : Nat → List Int) (w : World) (hm : n + took Z n ≤ 1048576) (hz : Hid (∀ i, i < n → (Z i).length ≤ 1048576)) (hr : RunsRead w a n P A C Z) (hq : recQ 6 tx pg n P Z = 0) (htx : tx < 1000000) (hpg : pg < 1000000) (htk : took Z n < 1000000) (hT : Tab w) :
    Calls Tryd.prog 15 #[.agg #[.int .i64 6, .int .i64 (tx : Int), .int .i64 (pg : Int), .slice a n c]] w fun e w' => e = .returned (.agg #[.int .i64 0, .string (txtS ⟨#[97, 98, 111, 114, 116]⟩ (one tx) 1)]) ∧ Below w.heap.size w w' := by
  have HR : Hid (RunsRead w a n P A C Z) := hr
  have HQ : Hid (recQ 6 tx pg n P Z = 0) := hq
  have HT : Hid (∀ X, Below w.heap.size w X → Tab X) := fun X gX => hT.below gX
  have HX : Hid (∀ i, i < 1 → (one tx) i < 1000000) := fun i hi => by unfold one; omega
  have HSz : Hid (∀ j, j ≤ 1 → (txtS ⟨#[97, 98, 111, 114, 116]⟩ (one tx) j).size ≤ 10 + 22 * j) := fun j hj => txtS_size (by decide) j (fun i hi => HX.out i (by omega))
  clear hr hq hT
  go_enter Tryd.func15, Tryd.ntmps15
  go_upto_region 1 with (fail)
  generalize hY : World.alloc _ _ = Y
  have g : Below w.heap.size w Y := by rw [← hY]; go_grown
  have hB : RcAtT Y w.heap.size 6 tx pg a n c := by rw [← hY]; exact ⟨by simp [go_sem], by simp [go_sem], by simp [go_sem], by simp [go_sem]⟩
  have y0 : Y.cell? ⟨w.heap.size + 1, 0, none⟩ = some (.int .i64 0) := by rw [← hY]; simp [go_sem]
  have y1 : Y.cell? ⟨w.heap.size + 1, 1, none⟩ = some (.string ⟨#[]⟩) := by rw [← hY]; simp [go_sem]
  have v0 : Y.frozen? ⟨w.heap.size + 1, 0, none⟩ = false := by rw [← hY]; simp [go_sem]
  have v1 : Y.frozen? ⟨w.heap.size + 1, 1, none⟩ = false := by rw [← hY]; simp [go_sem]
  have hs : w.heap.size + 2 ≤ Y.heap.size := by rw [← hY]; simp
  clear hY
  have hO : OutT Y (w.heap.size + 1) := ⟨y0, y1, v0, v1⟩
  clear y0 y1 v0 v1
  have hB0 := hB
  obtain ⟨c0, c1, c2, c3⟩ := hB0
  go_wp2_with fail
  refine (implRecordFault_any 6 tx pg a n c P A C Z _ (by omega) hz (HR.out.below g (Nat.le_refl _))).mono ?_
  rintro e w1 ⟨rfl, g1⟩
  rw [HQ.out]
  have hB := hB.up g1
  have hO := hO.below g1
  have g : Below w.heap.size w w1 := g.trans (g1.mono g.size)
  clear g1 c0 c1 c2 c3
  have hB0 := hB
  obtain ⟨c0, c1, c2, c3⟩ := hB0
  go_wp2_with fail
  refine (happeningOf_6 tx pg a n c _).mono ?_
  rintro e w2 ⟨rfl, g1⟩
  have hO := hO.below g1
  have g : Below w.heap.size w w2 := g.trans (g1.mono g.size)
  clear g1 c0 c1 c2 c3 hB
  go_wp2_with fail
  refine (word_6 tx pg a n c _).mono ?_
  rintro e w3 ⟨rfl, g1⟩
  have hO := hO.below g1
  have g : Below w.heap.size w w3 := g.trans (g1.mono g.size)
  clear g1
  go_wp2_with fail
  refine (numbersOf_6 tx _).mono ?_
  rintro e w4 ⟨gn, rfl, g1, hcn⟩
  have hO := hO.below g1
  have g : Below w.heap.size w w4 := g.trans (g1.mono g.size)
  have HCn : Hid (∀ i, i < 1 → w4.cell? ⟨gn, i, none⟩ = some (.int .i64 ((one tx) i))) := hcn
  have HW0 : Hid (txtS ⟨#[97, 98, 111, 114, 116]⟩ (one tx) 0 = ⟨#[97, 98, 111, 114, 116]⟩) := rfl
  clear g1 hcn
  have HE : Hid (∀ wd' xs', wd' = (⟨#[97, 98, 111, 114, 116]⟩ : ByteArray) → xs' = (one tx) → txtS ⟨#[97, 98, 111, 114, 116]⟩ (one tx) 1 = txtS wd' xs' 1) := by rintro _ _ rfl rfl; rfl
  generalize hxs : (one tx) = xs at HCn HX HSz HW0
  generalize hwd : (⟨#[97, 98, 111, 114, 116]⟩ : ByteArray) = wd at HSz HW0 ⊢
  have HE : Hid (txtS ⟨#[97, 98, 111, 114, 116]⟩ (one tx) 1 = txtS wd xs 1) := HE.out wd xs hwd.symm hxs.symm
  clear hxs hwd
  go_wp2_with fail
  go_loopw [21, 5] (fun i s wr => ∃ j : Nat, j ≤ 1 ∧ i = .int .i64 j ∧ s = .string (txtS wd xs j) ∧ Below w4.heap.size w4 wr) (fun i _ _ => 1 - (intOf i).toNat)
  case atStart => exact ⟨0, Nat.zero_le _, rfl, by rw [HW0.out], Below.refl _ _⟩
  case round =>
    obtain ⟨j, hj, rfl, rfl, gr⟩ := hrel
    by_cases hlt : j < 1
    · have hjn : (j : Int) < 1 := by omega
      have e0 : wr.cell? ⟨gn, j, none⟩ = some (.int .i64 (xs j)) := cellUp gr (HCn.out j hlt)
      have hs1 := HSz.out j hj
      have hx := HX.out j hlt
      have hs2 := decS_size (xs j) hx
      have HS : Hid (txtS wd xs (j + 1) = txtS wd xs j ++ (⟨#[32]⟩ ++ decS (xs j))) := rfl
      obtain ⟨x, hxv⟩ : ∃ x, x = xs j := ⟨_, rfl⟩
      obtain ⟨T, hTv⟩ : ∃ T, T = txtS wd xs j := ⟨_, rfl⟩
      rw [← hxv] at e0 hx hs2 HS
      rw [← hTv] at hs1 HS ⊢
      clear hxv hTv
      go_wp2_with fail
      refine (numberText_any x hx _ (HT.out _ (g.trans (gr.mono g.size)))).mono ?_
      rintro e w5 ⟨rfl, g5⟩
      have gr := gr.trans (g5.mono gr.size)
      have z1 : ¬ 9223372036854775807 < 1 + (decS x).size := by omega
      have z2 : ¬ 9223372036854775807 < T.size + (1 + (decS x).size) := by omega
      clear g5 e0
      go_wp2_with fail
      go_roundw
      case rel => exact ⟨j + 1, by omega, by go_num, by rw [HS.out], gr⟩
      case measure => simp [intOf]; omega
    · have e : j = 1 := by omega
      subst e
      have hO := hO.below gr
      have g : Below w.heap.size w wr := g.trans (gr.mono g.size)
      obtain ⟨r0, r1, r2, r3⟩ := hO
      clear gr
      generalize txtS wd xs 1 = T at HE ⊢
      go_wp2_with fail
      refine bodyPost_ret (v := .agg #[.int .i64 0, .string T]) (by simp [results, Tryd.results15, go_sem, r0, r1]) rfl ?_
      exact ⟨by rw [HE.out], by go_grown⟩

end Go.Proofs.YtcjkjenebnodbaaDoor
