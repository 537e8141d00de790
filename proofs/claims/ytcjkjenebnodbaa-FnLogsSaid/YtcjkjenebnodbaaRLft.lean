/-
  The program's LogFault: a deferred function that recovers.
-/
import Derived.Test.YtcjkjenebnodbaaRLgp
import Derived.Test.YtcjkjenebnodbaaRLgm
import Derived.Defers
import Derived.Recover
import Derived.Test.YtcjkjenebnodbaaRDBnt
import Derived.Maps.AppendAt
import Derived.Lib.AppendZeros

namespace Go.Proofs.Ytcjkjenebnodbaa
open Go.RowKit
set_option linter.unusedVariables false

/-- The code of a log. -/
def lfQ (xs ys : List Int) : Int := if 16000 < xs.length + ys.length then 2 else if logU xs = xs.length ∧ logU ys = ys.length then 0 else 5

theorem catch_panicking (p : Addr) (x : Int) (u : TypeId) (pv : Value) (older : List PanicEntry) (w : World) (hc : w.cell? p = some (.int .i64 x)) (hz : w.frozen? p = false) :
    CallsD Try.prog 87 #[.pointer (some p)] (.panicking ({ v := .iface u pv, recovered := false } :: older)) w fun e u' w' =>
      e = .returned (.tuple #[]) ∧ u' = .panicking ({ v := .iface u pv, recovered := true } :: older) ∧ w' = w.setCell p (.int .i64 5) := by
  refine callsD_of_wpS Try.func87 rfl fun c₀ cs hu => ?_
  apply wpS_seq
  apply wpS_region
  simp [wpOpsS, go_sem, recoverD, hu, Try.ntmps87, Exit.thenS]
  refine wpS_cond (t := true) (by simp [Act.eval, Array.replicate]) ?_
  simp only [if_true]
  apply wpS_region
  simp [wpOpsS, go_sem, hc, hz, bodyPostS, results, Try.results87]

theorem catch_idle (p : Addr) (w : World) :
    CallsD Try.prog 87 #[.pointer (some p)] .returning w fun e u' w' => e = .returned (.tuple #[]) ∧ u' = .returning ∧ w' = w := by
  refine callsD_of_wpS Try.func87 rfl fun c₀ cs hu => ?_
  apply wpS_seq
  apply wpS_region
  simp [wpOpsS, go_sem, recoverD, hu, Try.ntmps87, Exit.thenS]
  refine wpS_cond (t := false) (by simp [Act.eval, Array.replicate]) ?_
  simp only [Bool.false_eq_true, if_false]
  refine wpS_of_wp (wp_skip ?_)
  cases c₀
  simp_all [bodyPostS, results, Try.results87]

set_option maxHeartbeats 400000 in
theorem length_any (x y : Option Addr) (n c m d : Nat) (w : World) (hn : n ≤ 1048576) (hm : m ≤ 1048576) :
    Calls Try.prog 76 #[.agg #[.slice x n c, .slice y m d]] w fun e w' => e = .returned (.int .i64 ((n : Int) + (m : Int))) ∧ Below w.heap.size w w' := by
  go_enter Try.func76, Try.ntmps76
  go_wp2_with fail
  go_ret
  exact ⟨rfl, by go_grown⟩

set_option maxHeartbeats 1000000 in
theorem implLogFault_any (x y : Option Addr) (xs ys : List Int) (c d : Nat) (w : World) (hn1 : xs.length ≤ 1048576) (hm1 : ys.length ≤ 1048576) (hc : xs.length ≤ c) (hd : ys.length ≤ d) (hcm : c ≤ 9223372036854775807) (hdm : d ≤ 9223372036854775807) (hx : Reads w x xs) (hy : Reads w y ys) (hxb : ∀ z ∈ xs, 0 ≤ z ∧ z ≤ 255) (hyb : ∀ z ∈ ys, 0 ≤ z ∧ z ≤ 255) :
    Calls Try.prog 28 #[.agg #[.slice x xs.length c, .slice y ys.length d]] w fun e w' => e = .returned (.int .i64 (lfQ xs ys)) ∧ Below w.heap.size w w' := by
  have hmf : ∀ (fn : Fn) (first cap : Array Value) (w : World), (Instr.makeFunc fn first cap).run Try.prog w = .ok (.func fn first cap) w := fun _ _ _ _ => rfl
  have HX : Hid (∀ X, Below w.heap.size w X → Calls Try.prog 88 #[.slice x xs.length c] X fun e w' => RtPost X xs e w') := fun X g => readThrough_any xs x c X hn1 hc hcm (hx.below g (Nat.le_refl _)) hxb
  have HY : Hid (∀ X, Below w.heap.size w X → Calls Try.prog 88 #[.slice y ys.length d] X fun e w' => RtPost X ys e w') := fun X g => readThrough_any ys y d X hm1 hd hdm (hy.below g (Nat.le_refl _)) hyb
  clear hx hy hxb hyb hc hd
  obtain ⟨n, hn⟩ : ∃ n, n = xs.length := ⟨_, rfl⟩
  obtain ⟨m, hm⟩ : ∃ m, m = ys.length := ⟨_, rfl⟩
  rw [← hn] at HX hn1 ⊢
  rw [← hm] at HY hm1 ⊢
  have HN : Hid (n = xs.length) := hn
  have HM : Hid (m = ys.length) := hm
  clear hn hm
  go_enter_defers Try.func28, Try.ntmps28
  go_upto_region 1 with (fail)
  generalize hY : World.alloc _ _ = Y
  have g : Below w.heap.size w Y := by rw [← hY]; go_grown
  have r : LgAt Y w.heap.size x n c y m d := by rw [← hY]; exact ⟨by simp [go_sem], by simp [go_sem]⟩
  have k0 : Y.cell? ⟨w.heap.size + 1, 0, none⟩ = some (.int .i64 0) := by rw [← hY]; simp [go_sem]
  have f0 : Y.frozen? ⟨w.heap.size + 1, 0, none⟩ = false := by rw [← hY]; simp [go_sem]
  have hs : Y.heap.size = w.heap.size + 2 := by rw [← hY]; simp
  clear hY
  obtain ⟨r0, r1⟩ := r
  have r : LgAt Y w.heap.size x n c y m d := ⟨r0, r1⟩
  go_wp2_with fail
  refine (length_any x y n c m d _ hn1 hm1).mono ?_
  rintro e w1 ⟨rfl, g1⟩
  have r := r.up g1
  have k0 := (g1.cell (World.block_lt_of_cell? Y _ k0)).trans k0
  have f0 := (g1.frozen (p := ⟨w.heap.size + 1, 0, none⟩) (by simp only; omega)).trans f0
  have hs : w.heap.size + 2 ≤ w1.heap.size := by have := g1.size; omega
  have g : Below w.heap.size w w1 := g.trans (g1.mono g.size)
  clear g1 r0 r1
  obtain ⟨r0, r1⟩ := r
  have r : LgAt w1 w.heap.size x n c y m d := ⟨r0, r1⟩
  by_cases hbig : 16000 < n + m
  · have HE : Hid (lfQ xs ys = 2) := by show _ = _; unfold lfQ; rw [← HN.out, ← HM.out, if_pos hbig]
    have hb : (16000 : Int) < (n : Int) + (m : Int) := by omega
    go_wp2_with fail
    exact ⟨.int .i64 2, by simp [results, Try.results28, go_sem, k0], by rw [HE.out], by go_grown⟩
  · have hb : ¬ ((16000 : Int) < (n : Int) + (m : Int)) := by omega
    have HE : Hid (lfQ xs ys = if logU xs = xs.length ∧ logU ys = ys.length then 0 else 5) := by show _ = _; unfold lfQ; rw [← HN.out, ← HM.out, if_neg hbig]
    go_wp2_with fail
    refine (HX.out _ g).mono ?_
    intro e w2 hp
    obtain ⟨h1, h2, g2⟩ := hp
    have r := r.up g2
    have k0 := (g2.cell (World.block_lt_of_cell? w1 _ k0)).trans k0
    have f0 := (g2.frozen (p := ⟨w.heap.size + 1, 0, none⟩) (by simp only; omega)).trans f0
    have hs : w.heap.size + 2 ≤ w2.heap.size := by have := g2.size; omega
    have g : Below w.heap.size w w2 := g.trans (g2.mono g.size)
    clear g2 r0 r1
    obtain ⟨r0, r1⟩ := r
    have r : LgAt w2 w.heap.size x n c y m d := ⟨r0, r1⟩
    by_cases hX : logU xs = xs.length
    · have h1 := h1 hX
      subst h1
      clear h2
      go_wp2_with fail
      refine (HY.out _ g).mono ?_
      intro e w3 hp
      obtain ⟨h1, h2, g2⟩ := hp
      have k0 := (g2.cell (World.block_lt_of_cell? w2 _ k0)).trans k0
      have f0 := (g2.frozen (p := ⟨w.heap.size + 1, 0, none⟩) (by simp only; omega)).trans f0
      have hs : w.heap.size + 2 ≤ w3.heap.size := by have := g2.size; omega
      have g : Below w.heap.size w w3 := g.trans (g2.mono g.size)
      clear g2 r0 r1 r
      by_cases hYf : logU ys = ys.length
      · have h1 := h1 hYf
        subst h1
        have HE : Hid (lfQ xs ys = 0) := by show _ = _; rw [HE.out, if_pos ⟨hX, hYf⟩]
        clear h2 hX hYf
        go_wp2_with fail
        refine leaves_cons (f := 87) (args := #[.pointer (some ⟨w.heap.size + 1, 0, none⟩)]) (by simp) (by simp [go_sem]) ?_
        refine (catch_idle ⟨w.heap.size + 1, 0, none⟩ _).mono ?_
        rintro e u' w'' ⟨rfl, rfl, rfl⟩
        exact ⟨.int .i64 0, by simp [results, Try.results28, go_sem, k0], by rw [HE.out], by go_grown⟩
      · obtain ⟨pv, h2⟩ := h2 hYf
        subst h2
        have HE : Hid (lfQ xs ys = 5) := by show _ = _; rw [HE.out, if_neg (fun h => hYf h.2)]
        clear h1 hX hYf
        go_wp2_with fail
        refine leaves_cons (f := 87) (args := #[.pointer (some ⟨w.heap.size + 1, 0, none⟩)]) (by simp) (by simp [go_sem]) ?_
        refine (catch_panicking ⟨w.heap.size + 1, 0, none⟩ 0 9 pv [] _ k0 f0).mono ?_
        rintro e u' w'' ⟨rfl, rfl, rfl⟩
        exact ⟨.int .i64 5, by simp [results, Try.results28, go_sem, k0], by rw [HE.out], by go_grown⟩
    · obtain ⟨pv, h2⟩ := h2 hX
      subst h2
      have HE : Hid (lfQ xs ys = 5) := by show _ = _; rw [HE.out, if_neg (fun h => hX h.1)]
      clear h1 hX r r0 r1
      go_wp2_with fail
      refine leaves_cons (f := 87) (args := #[.pointer (some ⟨w.heap.size + 1, 0, none⟩)]) (by simp) (by simp [go_sem]) ?_
      refine (catch_panicking ⟨w.heap.size + 1, 0, none⟩ 0 9 pv [] _ k0 f0).mono ?_
      rintro e u' w'' ⟨rfl, rfl, rfl⟩
      exact ⟨.int .i64 5, by simp [results, Try.results28, go_sem, k0], by rw [HE.out], by go_grown⟩

end Go.Proofs.Ytcjkjenebnodbaa

/-
  The model's LogFault.
-/
namespace Go.Proofs.Ytcjkjenebnodbaa
open Go.RowKit
set_option linter.unusedVariables false

/-- Both ways to read bytes go to their end, or neither. -/
def L5Short (w : World) (zs : List Int) (e : Ending) (w' : World) : Prop := ∃ a c n, e = .returned (.tuple #[.slice a n c, .int .i64 (logU zs)]) ∧ Below w.heap.size w w'
theorem L5Post.short {w w' : World} {zs : List Int} {e : Ending} (h : L5Post w zs e w') : L5Short w zs e w' := by
  obtain ⟨v, D, he, hb, hR⟩ := h
  obtain ⟨a, c, hv⟩ := hR.form
  subst hv
  exact ⟨a, c, _, he, hb⟩

set_option maxHeartbeats 1000000 in
theorem l5Fault_any (p : Nat) (x y : Option Addr) (xs ys : List Int) (c d : Nat) (w : World) (hn1 : xs.length ≤ 1048576) (hm1 : ys.length ≤ 1048576) (hc : xs.length ≤ c) (hd : ys.length ≤ d) (hcm : c ≤ 9223372036854775807) (hdm : d ≤ 9223372036854775807) (hx : Reads w x xs) (hy : Reads w y ys) (hxb : ∀ z ∈ xs, 0 ≤ z ∧ z ≤ 255) (hyb : ∀ z ∈ ys, 0 ≤ z ∧ z ≤ 255) (r : LgAt w p x xs.length c y ys.length d) :
    Calls Try.prog 79 #[.pointer (some ⟨p, 0, none⟩)] w fun e w' => e = .returned (.int .i64 (lfQ xs ys)) ∧ Below w.heap.size w w' := by
  have HX : Hid (∀ X, Below w.heap.size w X → Calls Try.prog 89 #[.slice x xs.length c] X fun e w' => L5Short X xs e w') := fun X g => (l5Read_any xs x c X hn1 hc hcm (hx.below g (Nat.le_refl _)) hxb).mono (fun _ _ h => h.short)
  have HY : Hid (∀ X, Below w.heap.size w X → Calls Try.prog 89 #[.slice y ys.length d] X fun e w' => L5Short X ys e w') := fun X g => (l5Read_any ys y d X hm1 hd hdm (hy.below g (Nat.le_refl _)) hyb).mono (fun _ _ h => h.short)
  have HUx := logU_le xs
  have HUy := logU_le ys
  have HPx : Hid (∀ X e w', L5Short X xs e w' → ∃ a c n, e = .returned (.tuple #[.slice a n c, .int .i64 (logU xs)]) ∧ Below X.heap.size X w') := fun _ _ _ h => h
  have HPy : Hid (∀ X e w', L5Short X ys e w' → ∃ a c n, e = .returned (.tuple #[.slice a n c, .int .i64 (logU ys)]) ∧ Below X.heap.size X w') := fun _ _ _ h => h
  have HQ : Hid (lfQ xs ys = if 16000 < xs.length + ys.length then 2 else if logU xs = xs.length ∧ logU ys = ys.length then 0 else 5) := rfl
  clear hx hy hxb hyb hc hd
  generalize logU xs = u at HUx HPx HQ
  generalize logU ys = v at HUy HPy HQ
  generalize xs.length = n at HX hn1 HUx HQ r ⊢
  generalize ys.length = m at HY hm1 HUy HQ r ⊢
  obtain ⟨r0, r1⟩ := r
  have r : LgAt w p x n c y m d := ⟨r0, r1⟩
  by_cases hbig : 16000 < n + m
  · have HE : Hid (lfQ xs ys = 2) := by show _ = _; rw [HQ.out, if_pos hbig]
    have hb : (16000 : Int) < (n : Int) + (m : Int) := by omega
    go_enter Try.func79, Try.ntmps79
    go_wp2_with fail
    go_quiet (fail)
    go_wp2_with fail
    go_ret
    exact ⟨by rw [HE.out]; rfl, below_draws (Below.refl _ _) _⟩
  · have hb : ¬ ((16000 : Int) < (n : Int) + (m : Int)) := by omega
    have HE : Hid (lfQ xs ys = if u = n ∧ v = m then 0 else 5) := by show _ = _; rw [HQ.out, if_neg hbig]
    go_enter Try.func79, Try.ntmps79
    go_wp2_with fail
    go_quiet (fail)
    have g : Below w.heap.size w (w.drewN nq) := below_draws (Below.refl _ _) _
    have r := r.up g
    generalize w.drewN nq = D at g r ⊢
    clear r0 r1
    obtain ⟨r0, r1⟩ := r
    have r : LgAt D p x n c y m d := ⟨r0, r1⟩
    go_wp2_with fail
    refine (HX.out _ g).mono ?_
    intro e w2 hp
    obtain ⟨a2, d2, n2, rfl, g2⟩ := HPx.out _ _ _ hp
    have r := r.up g2
    have g := g.trans (g2.mono g.size)
    clear g2 hp r0 r1
    obtain ⟨r0, r1⟩ := r
    have r : LgAt w2 p x n c y m d := ⟨r0, r1⟩
    by_cases hX : u = n
    · have hX' : (u : Int) = (n : Int) := by omega
      subst hX
      clear hX'
      go_wp2_with fail
      refine (HY.out _ g).mono ?_
      intro e w3 hp
      obtain ⟨a3, d3, n3, rfl, g3⟩ := HPy.out _ _ _ hp
      have r := r.up g3
      have g := g.trans (g3.mono g.size)
      clear g3 hp r0 r1
      obtain ⟨r0, r1⟩ := r
      by_cases hYf : v = m
      · have HE : Hid (lfQ xs ys = 0) := by show _ = _; rw [HE.out]; simp [hYf]
        subst hYf
        go_wp2_with fail
        go_ret
        exact ⟨by rw [HE.out]; rfl, g⟩
      · have HE : Hid (lfQ xs ys = 5) := by show _ = _; rw [HE.out, if_neg (fun h => hYf h.2)]
        have hv : ¬ ((v : Int) = (m : Int)) := by omega
        go_wp2_with fail
        go_ret
        exact ⟨by rw [HE.out]; rfl, g⟩
    · have HE : Hid (lfQ xs ys = 5) := by show _ = _; rw [HE.out, if_neg (fun h => hX h.1)]
      have hv : ¬ ((u : Int) = (n : Int)) := by omega
      go_wp2_with fail
      go_ret
      exact ⟨by rw [HE.out]; rfl, g⟩

set_option maxHeartbeats 400000 in
theorem specLogFault_any (x y : Option Addr) (xs ys : List Int) (c d : Nat) (w : World) (hn1 : xs.length ≤ 1048576) (hm1 : ys.length ≤ 1048576) (hc : xs.length ≤ c) (hd : ys.length ≤ d) (hcm : c ≤ 9223372036854775807) (hdm : d ≤ 9223372036854775807) (hx : Reads w x xs) (hy : Reads w y ys) (hxb : ∀ z ∈ xs, 0 ≤ z ∧ z ≤ 255) (hyb : ∀ z ∈ ys, 0 ≤ z ∧ z ≤ 255) :
    Calls Try.prog 54 #[.agg #[.slice x xs.length c, .slice y ys.length d]] w fun e w' => e = .returned (.int .i64 (lfQ xs ys)) ∧ Below w.heap.size w w' := by
  have HC : Hid (∀ X, Below w.heap.size w X → LgAt X w.heap.size x xs.length c y ys.length d → Calls Try.prog 79 #[.pointer (some ⟨w.heap.size, 0, none⟩)] X fun e w' => e = .returned (.int .i64 (lfQ xs ys)) ∧ Below X.heap.size X w') := fun X g r => l5Fault_any w.heap.size x y xs ys c d X hn1 hm1 hc hd hcm hdm (hx.below g (Nat.le_refl _)) (hy.below g (Nat.le_refl _)) hxb hyb r
  generalize lfQ xs ys = q at HC ⊢
  clear hx hy hxb hyb hc hd
  generalize xs.length = n at HC hn1 ⊢
  generalize ys.length = m at HC hm1 ⊢
  go_enter Try.func54, Try.ntmps54
  go_wp2_with fail
  refine (HC.out _ (by go_grown) ⟨by simp [go_sem], by simp [go_sem]⟩).mono ?_
  rintro e w' ⟨rfl, hb⟩
  have g : Below w.heap.size w w' := Below.trans (by go_grown) (hb.mono (by simp))
  clear hb
  go_wp2_with fail
  go_ret
  exact ⟨rfl, g⟩

end Go.Proofs.Ytcjkjenebnodbaa

/-
  Bytes appended to bytes of one's own, from whatever slice; slices.Grow of nil, slices.Concat of two, bytes.Clone, l2Copy.
-/
namespace Go.Proofs.Ytcjkjenebnodbaa
open Go.RowKit
set_option linter.unusedVariables false

theorem run_append_none_any {P : Program} (w : World) (base : Nat) (t ty e : TypeId) (i : TypeInfo) (size c : Nat) (ht : P.underlying t = some (.slice e)) (hi : P.info? e = some i)
    (v : Value) (n : Nat) (xs : List Value) (hown : w.ownsRow base e size v n xs) : (Builtin.append_ #[t, t] ty #[v, .slice none 0 c]).run P w = .ok v w := by
  rcases hown.2 with ⟨rfl, rfl⟩ | ⟨g, cap, cur, rfl, _, _, hnc, _⟩
  · simp [Builtin.append_, run_underlying ht, sizeOf, typeInfo, hi, Builtin.lenOf, Builtin.firstCells]
  · simp [Builtin.append_, run_underlying ht, sizeOf, typeInfo, hi, Builtin.lenOf, Builtin.firstCells, hnc, storeCells]

theorem run_append_bytes (w : World) (base : Nat) (ty : TypeId) (v : Value) (us zs : List Int) (x : Option Addr) (c : Nat) (hown : Gb base w v us) (hr : Reads w x zs) (hl : us.length + zs.length ≤ 100000000) (hb : base ≤ w.heap.size) :
    ∃ v' w', (Builtin.append_ #[22, 22] ty #[v, .slice x zs.length c]).run Try.prog w = .ok v' w' ∧ Gb base w' v' (us ++ zs) ∧ w.grownBy w' v.ownBlock ∧ (v'.ownBlock = v.ownBlock ∨ v'.ownBlock = some w.heap.size) := by
  obtain ⟨i0, hi0, hz0, hz1, hz2⟩ := info5
  have fin : ∀ (a : Addr), x = some a → (∀ j u, (zs.map (Value.int .u8))[j]? = some u → w.cell? (a.add j) = some u) → ∃ v' w', (Builtin.append_ #[22, 22] ty #[v, .slice x zs.length c]).run Try.prog w = .ok v' w' ∧ Gb base w' v' (us ++ zs) ∧ w.grownBy w' v.ownBlock ∧ (v'.ownBlock = v.ownBlock ∨ v'.ownBlock = some w.heap.size) := fun a ha hc => by
    subst ha
    obtain ⟨v', w', h1, h2, h3, _, h5⟩ := run_append_own_at (P := Try.prog) w base 22 ty 5 i0 (.int .u8 0) 1 1 Try.underlying22 hi0 hz0 hz1 hz2 rfl (by decide) v us.length (us.map (Value.int .u8)) hown a zs.length c (zs.map (Value.int .u8)) (by simp) hc (ones _) (by unfold maxLen; omega) (by omega) hb
    exact ⟨v', w', h1, by unfold Gb; rw [List.length_append, List.map_append]; exact h2, h3, h5⟩
  rcases hr with h | ⟨b, off, ha, hc⟩
  · subst h
    cases x with
    | some a => exact fin a rfl (fun j u h => by simp at h)
    | none => exact ⟨v, w, run_append_none_any w base 22 ty 5 i0 1 c Try.underlying22 hi0 v us.length _ hown, by rw [List.append_nil]; exact hown, ⟨rfl, rfl, rfl, Nat.le_refl _, fun _ _ _ => rfl⟩, .inl rfl⟩
  · exact fin ⟨b, off, none⟩ ha (news_at hc)

theorem wp_append_bytes (w : World) {o : Oper} {a : Act} {K : Act → World → Prop} {Q : Exit → Act → World → Prop} (s x : Operand)
    (ho : o.op = .call { callee := .builtin .append, args := #[s, x], argTypes := #[22, 22] }) (base : Nat) (v : Value) (us zs : List Int) (ax : Option Addr) (n c : Nat) (hs : a.eval s = v) (hx : a.eval x = .slice ax n c) (hn : zs.length = n)
    (hown : Gb base w v us) (hr : Reads w ax zs) (hl : us.length + zs.length ≤ 100000000) (hb : base ≤ w.heap.size)
    (h : ∀ v' w', Gb base w' v' (us ++ zs) → w.grownBy w' v.ownBlock → (v'.ownBlock = v.ownBlock ∨ v'.ownBlock = some w.heap.size) → K (a.put o.dst v') w') : o.wp Try.prog a w K Q := by
  subst hn
  obtain ⟨v', w', h1, h2, h3, h4⟩ := run_append_bytes w base o.type v us zs ax c hown hr hl hb
  exact Go.Lib.wp_append_run w s x 22 22 ho v _ hs hx v' w' h1 (h v' w' h2 h3 h4)

theorem wpList_append_bytes (w : World) {ops : Array Oper} {rest : List Oper} {o : Oper} {a : Act} {Q : Exit → Act → World → Prop} (hgd : o.guard = none) (s x : Operand)
    (ho : o.op = .call { callee := .builtin .append, args := #[s, x], argTypes := #[22, 22] }) (base : Nat) (v : Value) (us zs : List Int) (ax : Option Addr) (n c : Nat) (hs : a.eval s = v) (hx : a.eval x = .slice ax n c) (hn : zs.length = n)
    (hown : Gb base w v us) (hr : Reads w ax zs) (hl : us.length + zs.length ≤ 100000000) (hb : base ≤ w.heap.size)
    (h : ∀ v' w', Gb base w' v' (us ++ zs) → w.grownBy w' v.ownBlock → (v'.ownBlock = v.ownBlock ∨ v'.ownBlock = some w.heap.size) → wpList Try.prog ops Q rest (a.put o.dst v') w') : wpList Try.prog ops Q (o :: rest) a w :=
  wpList_plain hgd fun _ hK => wp_append_bytes w s x ho base v us zs ax n c hs hx hn hown hr hl hb (fun v' w' h1 h2 h3 => hK _ _ (h v' w' h1 h2 h3))

theorem Gb.shape {base : Nat} {w : World} {v : Value} {xs : List Int} (h : Gb base w v xs) : ∃ a c, v = .slice a xs.length c ∧ xs.length ≤ c ∧ c ≤ 9223372036854775807 ∧ BytesIn base w.heap.size w a xs ∧ (a = none → c = 0) := by
  have hml : maxLen = 9223372036854775807 := by decide
  have h' := h
  unfold Gb at h'
  rcases h'.2 with ⟨e, h0⟩ | ⟨g, cap, cur, e, h1, h2, h3, h4, _⟩
  · exact ⟨none, 0, by rw [e, h0], by omega, by omega, .inl (List.eq_nil_of_length_eq_zero h0), fun _ => rfl⟩
  · refine ⟨_, cap, e, h3, by omega, ?_, fun h => by cases h⟩
    rw [e] at h'
    exact bytesIn_owns h'

theorem Gb.nil (base : Nat) (w : World) : Gb base w (.slice none 0 0) [] := World.ownsRow_nil _ _ _ _
theorem Gb.lit (base : Nat) (w : World) (h : base ≤ w.heap.size) : Gb base (w.alloc (.cells #[] 5)) (.slice (some ⟨w.heap.size, 0, none⟩) 0 0) [] := World.ownsRow_lit (base := base) (e := 5) (size := 1) w #[] 0 h (by unfold maxLen; omega) rfl

set_option maxHeartbeats 400000 in
theorem l2Copy_gen (x : Option Addr) (zs : List Int) (n c : Nat) (w : World) (hn : zs.length = n) (hm : n ≤ 10000000) (hr : Reads w x zs) :
    Calls Try.prog 119 #[.slice x n c] w fun e w' => ∃ v, e = .returned v ∧ Below w.heap.size w w' ∧ Gb w.heap.size w' v zs := by
  have HR : Hid (Reads w x zs) := hr
  have HN : Hid (zs.length = n) := hn
  clear hr hn
  have g0 : Below w.heap.size w (w.alloc (.cells #[] 5)) := by go_grown
  have hG := Gb.lit w.heap.size w (Nat.le_refl _)
  go_enter Try.func119, Try.ntmps119
  go_wp2_with (at_builtin; refine wpList_append_bytes _ rfl _ _ rfl w.heap.size _ [] zs x n c rfl rfl HN.out hG (HR.out.below g0 (Nat.le_refl _)) ?n1 ?n2 ?_)
  case n1 => rw [HN.out]; simp; omega
  case n2 => simp
  intro v' w6 hown' hgrow hat
  have g6 : Below w.heap.size w w6 := Below.grown g0 hgrow (by simp) (fun q e => by simp [Value.ownBlock] at e; omega)
  clear hgrow hG g0 hat
  go_wp2_with fail
  go_ret
  exact ⟨v', rfl, g6, hown'⟩

set_option maxHeartbeats 400000 in
theorem clone_gen (x : Option Addr) (zs : List Int) (n c : Nat) (w : World) (hn : zs.length = n) (hm : n ≤ 10000000) (hr : Reads w x zs) (hxc : x = none → c = 0) :
    Calls Try.prog 77 #[.slice x n c] w fun e w' => ∃ v, e = .returned v ∧ Below w.heap.size w w' ∧ Gb w.heap.size w' v zs := by
  have HR : Hid (Reads w x zs) := hr
  have HN : Hid (zs.length = n) := hn
  cases x with
  | none =>
    have hz : zs = [] := by
      rcases hr with h | ⟨_, _, h, _⟩
      · exact h
      · cases h
    subst hz
    have hn0 : n = 0 := by simpa using hn.symm
    have hc0 := hxc rfl
    subst hn0 hc0
    have hEq : ∀ W : World, (binOp .eql 22 (.slice none 0 0) (.slice none 0 0)).run Try.prog W = .ok (.bool true) W := fun W => by kernel_rfl
    clear hr hn HR HN
    go_enter Try.func77, Try.ntmps77
    go_wp2_with fail
    go_ret
    exact ⟨_, rfl, Below.refl _ _, Gb.nil _ _⟩
  | some a =>
    clear hr hn
    have g0 : Below w.heap.size w (w.alloc (.cells #[] 5)) := by go_grown
    have hG := Gb.lit w.heap.size w (Nat.le_refl _)
    have hEq : ∀ W : World, (binOp .eql 22 (.slice (some a) n c) (.slice none 0 0)).run Try.prog W = .ok (.bool false) W := fun W => by kernel_rfl
    go_enter Try.func77, Try.ntmps77
    go_wp2_with (at_builtin; refine wpList_append_bytes _ rfl _ _ rfl w.heap.size _ [] zs (some a) n c rfl rfl HN.out hG (HR.out.below g0 (Nat.le_refl _)) ?n1 ?n2 ?_)
    case n1 => rw [HN.out]; simp; omega
    case n2 => simp
    intro v' w6 hown' hgrow hat
    have g6 : Below w.heap.size w w6 := Below.grown g0 hgrow (by simp) (fun q e => by simp [Value.ownBlock] at e; omega)
    clear hgrow hG g0 hat
    go_wp2_with fail
    go_ret
    exact ⟨v', rfl, g6, hown'⟩

set_option maxRecDepth 20000 in
set_option maxHeartbeats 400000 in
theorem grow_nil (n : Nat) (w : World) (hn : n ≤ 100000000) :
    Calls Try.prog 115 #[.slice none 0 0, .int .i64 n] w fun e w' => ∃ v, e = .returned v ∧ Below w.heap.size w w' ∧ Gb w.heap.size w' v [] := by
  obtain ⟨i0, hi0, hz0, hz1, hz2⟩ := info5
  by_cases h0 : n = 0
  · subst h0
    go_enter Try.func115, Try.ntmps115
    go_wp2_with fail
    go_ret
    exact ⟨_, rfl, Below.refl _ _, Gb.nil _ _⟩
  · have hp : (0 : Int) < (n : Int) := by omega
    have hneg : ¬ ((n : Int) < 0) := by omega
    have hr := Go.Lib.run_append_nil_zeros (P := Try.prog) w 22 3 22 5 i0 (.int .u8 0) .i64 .i64 Try.underlying22 Try.underlying3 hi0 hz0 n (by omega) (by omega) (by omega) (by rw [hz2]; omega)
    go_enter Try.func115, Try.ntmps115
    go_wp2_with (at_builtin; refine Go.Lib.wpList_append_run _ rfl _ _ 22 3 rfl _ _ rfl rfl _ _ hr ?_)
    go_ret
    have hge := grownCap_ge w n 0 5
    have hcm : grownCap w n 0 5 ≤ maxLen := grownCap_le_maxLen w n 0 5 (by unfold maxLen; omega)
    refine ⟨_, rfl, by go_grown, ⟨rfl, .inr ⟨w.heap.size, _, _, rfl, Nat.le_refl _, heap_alloc_new w _, Nat.zero_le _, hcm, ?_, rfl⟩⟩⟩
    rw [Array.size_append, size_zeroCells, size_zeroCells]
    simp
    omega

/-- Block b holds two slices. -/
structure TwoAt (V : World) (b : Nat) (x : Option Addr) (n c : Nat) (y : Option Addr) (m d : Nat) : Prop where
  c0 : V.cell? ⟨b, 0, none⟩ = some (.slice x n c)
  c1 : V.cell? ⟨b, 1, none⟩ = some (.slice y m d)

set_option maxRecDepth 20000 in
set_option maxHeartbeats 1000000 in
theorem concat_two (b : Nat) (x y : Option Addr) (xs ys : List Int) (n c m d : Nat) (w : World) (hn : xs.length = n) (hm : ys.length = m) (hn1 : n ≤ 10000000) (hm1 : m ≤ 10000000) (hx : Reads w x xs) (hy : Reads w y ys) (r : TwoAt w b x n c y m d) :
    Calls Try.prog 78 #[.slice (some ⟨b, 0, none⟩) 2 2] w fun e w' => ∃ v, e = .returned v ∧ Below w.heap.size w w' ∧ Gb w.heap.size w' v (xs ++ ys) := by
  have HX : Hid (Reads w x xs) := hx
  have HY : Hid (Reads w y ys) := hy
  have HN : Hid (xs.length = n) := hn
  have HM : Hid (ys.length = m) := hm
  clear hx hy hn hm
  have HR : Hid (TwoAt w b x n c y m d) := r
  have HG : Hid (Calls Try.prog 115 #[.slice none 0 0, .int .i64 ((n : Int) + (m : Int))] w fun e w' => ∃ v, e = .returned v ∧ Below w.heap.size w w' ∧ Gb w.heap.size w' v []) := by
    have := grow_nil (n + m) w (by omega)
    rw [Int.natCast_add] at this
    exact this
  obtain ⟨r0, r1⟩ := r
  have p1 : ¬ ((n : Int) < 0) := by omega
  have p2 : ¬ ((n : Int) + (m : Int) < 0) := by omega
  go_enter Try.func78, Try.ntmps78
  go_wp2_with fail
  refine wp_loop_rounds 3 ?_
  rw [rounds_succ]
  go_wp2_with fail
  rw [rounds_succ]
  go_wp2_with fail
  rw [rounds_succ]
  go_wp2_with fail
  refine HG.out.mono ?_
  rintro e w1 ⟨v1, rfl, g1, hG1⟩
  have r0 := (g1.cell (World.block_lt_of_cell? w _ HR.out.c0)).trans HR.out.c0
  have r1 := (g1.cell (World.block_lt_of_cell? w _ HR.out.c1)).trans HR.out.c1
  have hs1 := g1.size
  have HX1 : Hid (Reads w1 x xs) := HX.out.below g1 (Nat.le_refl _)
  go_wp2_with fail
  refine wp_loop_rounds 3 ?_
  rw [rounds_succ]
  go_wp2_with (at_builtin; refine wpList_append_bytes _ rfl _ _ rfl w.heap.size _ [] xs x n c rfl rfl HN.out hG1 HX1.out ?n1 ?n2 ?_)
  case n1 => rw [HN.out]; simp; omega
  case n2 => omega
  intro v2 w2 hG2 hgr2 hat2
  have g2 : Below w.heap.size w w2 := Below.grown g1 hgr2 hs1 (fun q e => (World.ownsRow.lt hG1 q e).1)
  have hG2 : Gb w.heap.size w2 v2 xs := hG2
  clear hgr2 hat2 hG1 g1 r0 r1 HX1
  have r0 := (g2.cell (World.block_lt_of_cell? w _ HR.out.c0)).trans HR.out.c0
  have r1 := (g2.cell (World.block_lt_of_cell? w _ HR.out.c1)).trans HR.out.c1
  have hs2 := g2.size
  have HY2 : Hid (Reads w2 y ys) := HY.out.below g2 (Nat.le_refl _)
  go_wp2_with fail
  rw [rounds_succ]
  go_wp2_with (at_builtin; refine wpList_append_bytes _ rfl _ _ rfl w.heap.size _ xs ys y m d rfl rfl HM.out hG2 HY2.out ?n1 ?n2 ?_)
  case n1 => rw [HN.out, HM.out]; omega
  case n2 => omega
  intro v3 w3 hG3 hgr3 hat3
  have g3 : Below w.heap.size w w3 := Below.grown g2 hgr3 hs2 (fun q e => (World.ownsRow.lt hG2 q e).1)
  clear hgr3 hat3 hG2 g2 r0 r1 HY2
  go_wp2_with fail
  rw [rounds_succ]
  go_wp2_with fail
  go_ret
  exact ⟨_, rfl, g3, hG3⟩

end Go.Proofs.Ytcjkjenebnodbaa
