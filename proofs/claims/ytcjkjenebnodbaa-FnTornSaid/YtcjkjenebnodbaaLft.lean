/-
  The program's LogFault: a deferred function that recovers.
-/
import Derived.Test.YtcjkjenebnodbaaNxt
import Derived.Test.YtcjkjenebnodbaaLgm
import Derived.Defers
import Derived.Recover
namespace Go.Proofs.Ytcjkjenebnodbaa
open Go.RowKit
set_option linter.unusedVariables false

/-- The code of a log. -/
def lfQ (xs ys : List Int) : Int := if 16000 < xs.length + ys.length then 2 else if logU xs = xs.length ∧ logU ys = ys.length then 0 else 5

theorem catch_panicking (p : Addr) (x : Int) (u : TypeId) (pv : Value) (older : List PanicEntry) (w : World) (hc : w.cell? p = some (.int .i64 x)) (hz : w.frozen? p = false) :
    CallsD Try.prog 87 #[.pointer (some p)] (.panicking ({ v := .iface u pv, recovered := false } :: older)) w fun e u' w' =>
      e = .returned (.tuple #[]) ∧ u' = .panicking ({ v := .iface u pv, recovered := true } :: older) ∧ w' = w.setCell p (.int .i64 5) := by
  refine callsD_of_wpS Try.func87 rfl fun c₀ cs hu => ?_
  apply wpS_seq
  apply wpS_region
  simp [wpOpsS, go_sem, recoverD, hu, Try.ntmps87, Exit.thenS]
  refine wpS_cond (t := true) (by simp [Act.eval, Array.replicate]) ?_
  simp only [if_true]
  apply wpS_region
  simp [wpOpsS, go_sem, hc, hz, bodyPostS, results, Try.results87]

theorem catch_idle (p : Addr) (w : World) :
    CallsD Try.prog 87 #[.pointer (some p)] .returning w fun e u' w' => e = .returned (.tuple #[]) ∧ u' = .returning ∧ w' = w := by
  refine callsD_of_wpS Try.func87 rfl fun c₀ cs hu => ?_
  apply wpS_seq
  apply wpS_region
  simp [wpOpsS, go_sem, recoverD, hu, Try.ntmps87, Exit.thenS]
  refine wpS_cond (t := false) (by simp [Act.eval, Array.replicate]) ?_
  simp only [Bool.false_eq_true, if_false]
  refine wpS_of_wp (wp_skip ?_)
  cases c₀
  simp_all [bodyPostS, results, Try.results87]

set_option maxHeartbeats 400000 in
theorem length_any (x y : Option Addr) (n c m d : Nat) (w : World) (hn : n ≤ 1048576) (hm : m ≤ 1048576) :
    Calls Try.prog 76 #[.agg #[.slice x n c, .slice y m d]] w fun e w' => e = .returned (.int .i64 ((n : Int) + (m : Int))) ∧ Below w.heap.size w w' := by
  go_enter Try.func76, Try.ntmps76
  go_wp2_with fail
  go_ret
  exact ⟨rfl, by go_grown⟩

set_option maxHeartbeats 1000000 in
theorem implLogFault_any (x y : Option Addr) (xs ys : List Int) (c d : Nat) (w : World) (hn1 : xs.length ≤ 1048576) (hm1 : ys.length ≤ 1048576) (hc : xs.length ≤ c) (hd : ys.length ≤ d) (hcm : c ≤ 9223372036854775807) (hdm : d ≤ 9223372036854775807) (hx : Reads w x xs) (hy : Reads w y ys) (hxb : ∀ z ∈ xs, 0 ≤ z ∧ z ≤ 255) (hyb : ∀ z ∈ ys, 0 ≤ z ∧ z ≤ 255) :
    Calls Try.prog 28 #[.agg #[.slice x xs.length c, .slice y ys.length d]] w fun e w' => e = .returned (.int .i64 (lfQ xs ys)) ∧ Below w.heap.size w w' := by
  have hmf : ∀ (fn : Fn) (first cap : Array Value) (w : World), (Instr.makeFunc fn first cap).run Try.prog w = .ok (.func fn first cap) w := fun _ _ _ _ => rfl
  have HX : Hid (∀ X, Below w.heap.size w X → Calls Try.prog 88 #[.slice x xs.length c] X fun e w' => RtPost X xs e w') := fun X g => readThrough_any xs x c X hn1 hc hcm (hx.below g (Nat.le_refl _)) hxb
  have HY : Hid (∀ X, Below w.heap.size w X → Calls Try.prog 88 #[.slice y ys.length d] X fun e w' => RtPost X ys e w') := fun X g => readThrough_any ys y d X hm1 hd hdm (hy.below g (Nat.le_refl _)) hyb
  clear hx hy hxb hyb hc hd
  obtain ⟨n, hn⟩ : ∃ n, n = xs.length := ⟨_, rfl⟩
  obtain ⟨m, hm⟩ : ∃ m, m = ys.length := ⟨_, rfl⟩
  rw [← hn] at HX hn1 ⊢
  rw [← hm] at HY hm1 ⊢
  have HN : Hid (n = xs.length) := hn
  have HM : Hid (m = ys.length) := hm
  clear hn hm
  go_enter_defers Try.func28, Try.ntmps28
  go_upto_region 1 with (fail)
  generalize hY : World.alloc _ _ = Y
  have g : Below w.heap.size w Y := by rw [← hY]; go_grown
  have r : LgAt Y w.heap.size x n c y m d := by rw [← hY]; exact ⟨by simp [go_sem], by simp [go_sem]⟩
  have k0 : Y.cell? ⟨w.heap.size + 1, 0, none⟩ = some (.int .i64 0) := by rw [← hY]; simp [go_sem]
  have f0 : Y.frozen? ⟨w.heap.size + 1, 0, none⟩ = false := by rw [← hY]; simp [go_sem]
  have hs : Y.heap.size = w.heap.size + 2 := by rw [← hY]; simp
  clear hY
  obtain ⟨r0, r1⟩ := r
  have r : LgAt Y w.heap.size x n c y m d := ⟨r0, r1⟩
  go_wp2_with fail
  refine (length_any x y n c m d _ hn1 hm1).mono ?_
  rintro e w1 ⟨rfl, g1⟩
  have r := r.up g1
  have k0 := (g1.cell (World.block_lt_of_cell? Y _ k0)).trans k0
  have f0 := (g1.frozen (p := ⟨w.heap.size + 1, 0, none⟩) (by simp only; omega)).trans f0
  have hs : w.heap.size + 2 ≤ w1.heap.size := by have := g1.size; omega
  have g : Below w.heap.size w w1 := g.trans (g1.mono g.size)
  clear g1 r0 r1
  obtain ⟨r0, r1⟩ := r
  have r : LgAt w1 w.heap.size x n c y m d := ⟨r0, r1⟩
  by_cases hbig : 16000 < n + m
  · have HE : Hid (lfQ xs ys = 2) := by show _ = _; unfold lfQ; rw [← HN.out, ← HM.out, if_pos hbig]
    have hb : (16000 : Int) < (n : Int) + (m : Int) := by omega
    go_wp2_with fail
    exact ⟨.int .i64 2, by simp [results, Try.results28, go_sem, k0], by rw [HE.out], by go_grown⟩
  · have hb : ¬ ((16000 : Int) < (n : Int) + (m : Int)) := by omega
    have HE : Hid (lfQ xs ys = if logU xs = xs.length ∧ logU ys = ys.length then 0 else 5) := by show _ = _; unfold lfQ; rw [← HN.out, ← HM.out, if_neg hbig]
    go_wp2_with fail
    refine (HX.out _ g).mono ?_
    intro e w2 hp
    obtain ⟨h1, h2, g2⟩ := hp
    have r := r.up g2
    have k0 := (g2.cell (World.block_lt_of_cell? w1 _ k0)).trans k0
    have f0 := (g2.frozen (p := ⟨w.heap.size + 1, 0, none⟩) (by simp only; omega)).trans f0
    have hs : w.heap.size + 2 ≤ w2.heap.size := by have := g2.size; omega
    have g : Below w.heap.size w w2 := g.trans (g2.mono g.size)
    clear g2 r0 r1
    obtain ⟨r0, r1⟩ := r
    have r : LgAt w2 w.heap.size x n c y m d := ⟨r0, r1⟩
    by_cases hX : logU xs = xs.length
    · have h1 := h1 hX
      subst h1
      clear h2
      go_wp2_with fail
      refine (HY.out _ g).mono ?_
      intro e w3 hp
      obtain ⟨h1, h2, g2⟩ := hp
      have k0 := (g2.cell (World.block_lt_of_cell? w2 _ k0)).trans k0
      have f0 := (g2.frozen (p := ⟨w.heap.size + 1, 0, none⟩) (by simp only; omega)).trans f0
      have hs : w.heap.size + 2 ≤ w3.heap.size := by have := g2.size; omega
      have g : Below w.heap.size w w3 := g.trans (g2.mono g.size)
      clear g2 r0 r1 r
      by_cases hYf : logU ys = ys.length
      · have h1 := h1 hYf
        subst h1
        have HE : Hid (lfQ xs ys = 0) := by show _ = _; rw [HE.out, if_pos ⟨hX, hYf⟩]
        clear h2 hX hYf
        go_wp2_with fail
        refine leaves_cons (f := 87) (args := #[.pointer (some ⟨w.heap.size + 1, 0, none⟩)]) (by simp) (by simp [go_sem]) ?_
        refine (catch_idle ⟨w.heap.size + 1, 0, none⟩ _).mono ?_
        rintro e u' w'' ⟨rfl, rfl, rfl⟩
        exact ⟨.int .i64 0, by simp [results, Try.results28, go_sem, k0], by rw [HE.out], by go_grown⟩
      · obtain ⟨pv, h2⟩ := h2 hYf
        subst h2
        have HE : Hid (lfQ xs ys = 5) := by show _ = _; rw [HE.out, if_neg (fun h => hYf h.2)]
        clear h1 hX hYf
        go_wp2_with fail
        refine leaves_cons (f := 87) (args := #[.pointer (some ⟨w.heap.size + 1, 0, none⟩)]) (by simp) (by simp [go_sem]) ?_
        refine (catch_panicking ⟨w.heap.size + 1, 0, none⟩ 0 9 pv [] _ k0 f0).mono ?_
        rintro e u' w'' ⟨rfl, rfl, rfl⟩
        exact ⟨.int .i64 5, by simp [results, Try.results28, go_sem, k0], by rw [HE.out], by go_grown⟩
    · obtain ⟨pv, h2⟩ := h2 hX
      subst h2
      have HE : Hid (lfQ xs ys = 5) := by show _ = _; rw [HE.out, if_neg (fun h => hX h.1)]
      clear h1 hX r r0 r1
      go_wp2_with fail
      refine leaves_cons (f := 87) (args := #[.pointer (some ⟨w.heap.size + 1, 0, none⟩)]) (by simp) (by simp [go_sem]) ?_
      refine (catch_panicking ⟨w.heap.size + 1, 0, none⟩ 0 9 pv [] _ k0 f0).mono ?_
      rintro e u' w'' ⟨rfl, rfl, rfl⟩
      exact ⟨.int .i64 5, by simp [results, Try.results28, go_sem, k0], by rw [HE.out], by go_grown⟩

end Go.Proofs.Ytcjkjenebnodbaa
