/-
  The model's LogFault.
-/
import Derived.Test.YtcjkjenebnodbaaL5r
import Derived.Test.YtcjkjenebnodbaaLft
namespace Go.Proofs.Ytcjkjenebnodbaa
open Go.RowKit
set_option linter.unusedVariables false

/-- Both ways to read bytes go to their end, or neither. -/
def L5Short (w : World) (zs : List Int) (e : Ending) (w' : World) : Prop := ∃ a c n, e = .returned (.tuple #[.slice a n c, .int .i64 (logU zs)]) ∧ Below w.heap.size w w'
theorem L5Post.short {w w' : World} {zs : List Int} {e : Ending} (h : L5Post w zs e w') : L5Short w zs e w' := by
  obtain ⟨v, D, he, hb, hR⟩ := h
  obtain ⟨a, c, hv⟩ := hR.form
  subst hv
  exact ⟨a, c, _, he, hb⟩

set_option maxHeartbeats 1000000 in
theorem l5Fault_any (p : Nat) (x y : Option Addr) (xs ys : List Int) (c d : Nat) (w : World) (hn1 : xs.length ≤ 1048576) (hm1 : ys.length ≤ 1048576) (hc : xs.length ≤ c) (hd : ys.length ≤ d) (hcm : c ≤ 9223372036854775807) (hdm : d ≤ 9223372036854775807) (hx : Reads w x xs) (hy : Reads w y ys) (hxb : ∀ z ∈ xs, 0 ≤ z ∧ z ≤ 255) (hyb : ∀ z ∈ ys, 0 ≤ z ∧ z ≤ 255) (r : LgAt w p x xs.length c y ys.length d) :
    Calls Try.prog 79 #[.pointer (some ⟨p, 0, none⟩)] w fun e w' => e = .returned (.int .i64 (lfQ xs ys)) ∧ Below w.heap.size w w' := by
  have HX : Hid (∀ X, Below w.heap.size w X → Calls Try.prog 89 #[.slice x xs.length c] X fun e w' => L5Short X xs e w') := fun X g => (l5Read_any xs x c X hn1 hc hcm (hx.below g (Nat.le_refl _)) hxb).mono (fun _ _ h => h.short)
  have HY : Hid (∀ X, Below w.heap.size w X → Calls Try.prog 89 #[.slice y ys.length d] X fun e w' => L5Short X ys e w') := fun X g => (l5Read_any ys y d X hm1 hd hdm (hy.below g (Nat.le_refl _)) hyb).mono (fun _ _ h => h.short)
  have HUx := logU_le xs
  have HUy := logU_le ys
  have HPx : Hid (∀ X e w', L5Short X xs e w' → ∃ a c n, e = .returned (.tuple #[.slice a n c, .int .i64 (logU xs)]) ∧ Below X.heap.size X w') := fun _ _ _ h => h
  have HPy : Hid (∀ X e w', L5Short X ys e w' → ∃ a c n, e = .returned (.tuple #[.slice a n c, .int .i64 (logU ys)]) ∧ Below X.heap.size X w') := fun _ _ _ h => h
  have HQ : Hid (lfQ xs ys = if 16000 < xs.length + ys.length then 2 else if logU xs = xs.length ∧ logU ys = ys.length then 0 else 5) := rfl
  clear hx hy hxb hyb hc hd
  generalize logU xs = u at HUx HPx HQ
  generalize logU ys = v at HUy HPy HQ
  generalize xs.length = n at HX hn1 HUx HQ r ⊢
  generalize ys.length = m at HY hm1 HUy HQ r ⊢
  obtain ⟨r0, r1⟩ := r
  have r : LgAt w p x n c y m d := ⟨r0, r1⟩
  by_cases hbig : 16000 < n + m
  · have HE : Hid (lfQ xs ys = 2) := by show _ = _; rw [HQ.out, if_pos hbig]
    have hb : (16000 : Int) < (n : Int) + (m : Int) := by omega
    go_enter Try.func79, Try.ntmps79
    go_wp2_with fail
    go_quiet (fail)
    go_wp2_with fail
    go_ret
    exact ⟨by rw [HE.out]; rfl, below_draws (Below.refl _ _) _⟩
  · have hb : ¬ ((16000 : Int) < (n : Int) + (m : Int)) := by omega
    have HE : Hid (lfQ xs ys = if u = n ∧ v = m then 0 else 5) := by show _ = _; rw [HQ.out, if_neg hbig]
    go_enter Try.func79, Try.ntmps79
    go_wp2_with fail
    go_quiet (fail)
    have g : Below w.heap.size w (w.drewN nq) := below_draws (Below.refl _ _) _
    have r := r.up g
    generalize w.drewN nq = D at g r ⊢
    clear r0 r1
    obtain ⟨r0, r1⟩ := r
    have r : LgAt D p x n c y m d := ⟨r0, r1⟩
    go_wp2_with fail
    refine (HX.out _ g).mono ?_
    intro e w2 hp
    obtain ⟨a2, d2, n2, rfl, g2⟩ := HPx.out _ _ _ hp
    have r := r.up g2
    have g := g.trans (g2.mono g.size)
    clear g2 hp r0 r1
    obtain ⟨r0, r1⟩ := r
    have r : LgAt w2 p x n c y m d := ⟨r0, r1⟩
    by_cases hX : u = n
    · have hX' : (u : Int) = (n : Int) := by omega
      subst hX
      clear hX'
      go_wp2_with fail
      refine (HY.out _ g).mono ?_
      intro e w3 hp
      obtain ⟨a3, d3, n3, rfl, g3⟩ := HPy.out _ _ _ hp
      have r := r.up g3
      have g := g.trans (g3.mono g.size)
      clear g3 hp r0 r1
      obtain ⟨r0, r1⟩ := r
      by_cases hYf : v = m
      · have HE : Hid (lfQ xs ys = 0) := by show _ = _; rw [HE.out]; simp [hYf]
        subst hYf
        go_wp2_with fail
        go_ret
        exact ⟨by rw [HE.out]; rfl, g⟩
      · have HE : Hid (lfQ xs ys = 5) := by show _ = _; rw [HE.out, if_neg (fun h => hYf h.2)]
        have hv : ¬ ((v : Int) = (m : Int)) := by omega
        go_wp2_with fail
        go_ret
        exact ⟨by rw [HE.out]; rfl, g⟩
    · have HE : Hid (lfQ xs ys = 5) := by show _ = _; rw [HE.out, if_neg (fun h => hX h.1)]
      have hv : ¬ ((u : Int) = (n : Int)) := by omega
      go_wp2_with fail
      go_ret
      exact ⟨by rw [HE.out]; rfl, g⟩

set_option maxHeartbeats 400000 in
theorem specLogFault_any (x y : Option Addr) (xs ys : List Int) (c d : Nat) (w : World) (hn1 : xs.length ≤ 1048576) (hm1 : ys.length ≤ 1048576) (hc : xs.length ≤ c) (hd : ys.length ≤ d) (hcm : c ≤ 9223372036854775807) (hdm : d ≤ 9223372036854775807) (hx : Reads w x xs) (hy : Reads w y ys) (hxb : ∀ z ∈ xs, 0 ≤ z ∧ z ≤ 255) (hyb : ∀ z ∈ ys, 0 ≤ z ∧ z ≤ 255) :
    Calls Try.prog 54 #[.agg #[.slice x xs.length c, .slice y ys.length d]] w fun e w' => e = .returned (.int .i64 (lfQ xs ys)) ∧ Below w.heap.size w w' := by
  have HC : Hid (∀ X, Below w.heap.size w X → LgAt X w.heap.size x xs.length c y ys.length d → Calls Try.prog 79 #[.pointer (some ⟨w.heap.size, 0, none⟩)] X fun e w' => e = .returned (.int .i64 (lfQ xs ys)) ∧ Below X.heap.size X w') := fun X g r => l5Fault_any w.heap.size x y xs ys c d X hn1 hm1 hc hd hcm hdm (hx.below g (Nat.le_refl _)) (hy.below g (Nat.le_refl _)) hxb hyb r
  generalize lfQ xs ys = q at HC ⊢
  clear hx hy hxb hyb hc hd
  generalize xs.length = n at HC hn1 ⊢
  generalize ys.length = m at HC hm1 ⊢
  go_enter Try.func54, Try.ntmps54
  go_wp2_with fail
  refine (HC.out _ (by go_grown) ⟨by simp [go_sem], by simp [go_sem]⟩).mono ?_
  rintro e w' ⟨rfl, hb⟩
  have g : Below w.heap.size w w' := Below.trans (by go_grown) (hb.mono (by simp))
  clear hb
  go_wp2_with fail
  go_ret
  exact ⟨rfl, g⟩

end Go.Proofs.Ytcjkjenebnodbaa
