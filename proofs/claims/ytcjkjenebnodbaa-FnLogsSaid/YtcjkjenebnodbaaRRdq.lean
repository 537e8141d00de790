/-
  What came in, opened: a slice of records; szRecordS, toRecordS.
-/
import Derived.Test.YtcjkjenebnodbaaRRcm
import Derived.Test.YtcjkjenebnodbaaRBnu
import Derived.Test.YtcjkjenebnodbaaRLbn

namespace Go.Proofs.Ytcjkjenebnodbaa
open Go.ChangeShapes Go.WideShapes Go.RowKit
set_option linter.unusedVariables false

/-- The slice that begins at a reads as n records. -/
def RecsRead (w : World) (a : Option Addr) (n : Nat) (R : Nat → Rc) (D : Nat → Ad) : Prop :=
  n = 0 ∨ ∃ b off, a = some ⟨b, off, none⟩ ∧ ∀ i, i < n → w.cell? ⟨b, off + i * 4, none⟩ = some (.int .i64 (R i).k) ∧ w.cell? ⟨b, off + i * 4 + 1, none⟩ = some (.int .i64 (R i).t) ∧ w.cell? ⟨b, off + i * 4 + 2, none⟩ = some (.int .i64 (R i).g) ∧ w.cell? ⟨b, off + i * 4 + 3, none⟩ = some (.slice (D i).a (R i).n (D i).c) ∧ RunsRead w (D i).a (R i).n (R i).P (D i).A (D i).C (R i).Z
theorem RecsRead.below {w w' : World} {a : Option Addr} {n : Nat} {R : Nat → Rc} {D : Nat → Ad} (h : RecsRead w a n R D) {B : Nat} (hb : Below B w w') (hB : w.heap.size ≤ B) : RecsRead w' a n R D := by
  have up : ∀ (p : Addr) (v : Value), w.cell? p = some v → w'.cell? p = some v := fun p v h => (hb.cell (Nat.lt_of_lt_of_le (World.block_lt_of_cell? w _ h) hB)).trans h
  rcases h with h | ⟨b, off, ha, hc⟩
  · exact .inl h
  · refine .inr ⟨b, off, ha, fun i hi => ?_⟩
    obtain ⟨h0, h1, h2, h3, h4⟩ := hc i hi
    exact ⟨up _ _ h0, up _ _ h1, up _ _ h2, up _ _ h3, h4.below hb hB⟩
theorem RecsRead.at_ {w : World} {b off n : Nat} {R : Nat → Rc} {D : Nat → Ad} (h : RecsRead w (some ⟨b, off, none⟩) n R D) (i : Nat) (hi : i < n) : w.cell? ⟨b, off + i * 4, none⟩ = some (.int .i64 (R i).k) ∧ w.cell? ⟨b, off + i * 4 + 1, none⟩ = some (.int .i64 (R i).t) ∧ w.cell? ⟨b, off + i * 4 + 2, none⟩ = some (.int .i64 (R i).g) ∧ w.cell? ⟨b, off + i * 4 + 3, none⟩ = some (.slice (D i).a (R i).n (D i).c) ∧ RunsRead w (D i).a (R i).n (R i).P (D i).A (D i).C (R i).Z := by
  rcases h with h | ⟨b', off', e, hc⟩
  · omega
  · simp only [Option.some.injEq, Addr.mk.injEq, and_true] at e
    obtain ⟨rfl, rfl⟩ := e
    exact hc i hi

structure IsRecs (w : World) (a : Option Addr) (len : Nat) (R : Nat → Rc) (D : Nat → Ad) : Prop where
  rd : RecsRead w a len R D
  ln : len ≤ 9223372036854775807
  ir : ∀ i, i < len → IsRuns w (D i).a (R i).n (R i).P (D i).A (D i).C (R i).Z

instance : Inhabited Rc := ⟨⟨0, 0, 0, 0, fun _ => 0, fun _ => []⟩⟩
instance : Inhabited Ad := ⟨⟨none, 0, fun _ => none, fun _ => 0, fun _ => 0, 0, 0⟩⟩
theorem four {α : Type} (xs : List α) (h : xs.length = 4) : ∃ a b c d, xs = [a, b, c, d] := by
  match xs, h with
  | [a, b, c, d], _ => exact ⟨a, b, c, d, rfl⟩

theorem open_recs {H : Type} {enc : TypeId × Value → H} {W : World} {base : Nat} {held : Bool} {fuel : Nat} {a : Option Addr} {len cap : Nat} {x : DataW H × List MemPlace}
    (h : DataW.trod enc Try.prog W base (fun _ => true) held fuel 68 [.slice a len cap] = some x) : ∃ R D, IsRecs W a len R D := by
  have hml : maxLen = 9223372036854775807 := by decide
  rcases Go.Deep.open_slice Try.underlying68 h with ⟨hcs, _⟩ | ⟨y, l, c, m, n, Dd, Pl, hcs, hb, hl, hm, hmm, _, hx⟩
  · simp only [List.cons.injEq, Value.slice.injEq, and_true] at hcs
    obtain ⟨rfl, rfl, rfl⟩ := hcs
    exact ⟨fun _ => ⟨0, 0, 0, 0, fun _ => 0, fun _ => []⟩, fun _ => ⟨none, 0, fun _ => none, fun _ => 0, fun _ => 0, 0, 0⟩, .inl rfl, by omega, fun i hi => by omega⟩
  · simp only [List.cons.injEq, Value.slice.injEq, and_true] at hcs
    obtain ⟨rfl, rfl, rfl⟩ := hcs
    simp only [if_true] at hmm
    subst hmm
    have ce : Try.prog.cellsOf 50 = 4 := by kernel_rfl
    have each : ∀ i, i < len → ∃ q : Rc × Ad, W.cell? (y.add (i * 4)) = some (.int .i64 q.1.k) ∧ W.cell? (y.add (i * 4 + 1)) = some (.int .i64 q.1.t) ∧ W.cell? (y.add (i * 4 + 2)) = some (.int .i64 q.1.g) ∧ W.cell? (y.add (i * 4 + 3)) = some (.slice q.2.a q.1.n q.2.c) ∧ IsRuns W q.2.a q.1.n q.1.P q.2.A q.2.C q.1.Z := by
      intro i hi
      obtain ⟨cs', h1, h2⟩ := hx i (by omega)
      rw [ce] at h1
      obtain ⟨_, hlen, hcell⟩ := World.cells?_some h1
      obtain ⟨xs, k, hk, hxy, _, hxl, hf⟩ := DataW.trod_struct Try.underlying50 h2
      have hx4 : xs.length = 4 := hxl
      clear hxl
      obtain ⟨y0, y1, y2, y3, rfl⟩ := four xs hx4
      obtain ⟨v0, v1, v2, v3, rfl⟩ := four cs' hlen
      · skip
        have g0 := hf 0 _ rfl
        have g1 := hf 1 _ rfl
        have g2 := hf 2 _ rfl
        have g3 := hf 3 _ rfl
        have c2 : Try.prog.cellsOf 2 = 1 := by kernel_rfl
        have c48 : Try.prog.cellsOf 48 = 1 := by kernel_rfl
        simp [c2, c48] at g0 g1 g2 g3
        obtain ⟨t0, e0, _, _⟩ := DataW.trod_int Try.underlying2 g0
        obtain ⟨t1, e1, _, _⟩ := DataW.trod_int Try.underlying2 g1
        obtain ⟨t2, e2, _, _⟩ := DataW.trod_int Try.underlying2 g2
        obtain ⟨ar, lr, cr, P, A, C, Z, e3, hr⟩ := open_runs_any g3
        simp only [List.cons.injEq, and_true] at e0 e1 e2 e3
        subst e0 e1 e2 e3
        have k0 := hcell 0 (by omega)
        have k1 := hcell 1 (by omega)
        have k2 := hcell 2 (by omega)
        have k3 := hcell 3 (by omega)
        rw [Go.Deep.add_add] at k0 k1 k2 k3
        exact ⟨(⟨t0, t1, t2, lr, P, Z⟩, ⟨ar, cr, A, C, fun _ => 0, 0, 0⟩), by simpa using k0, by simpa using k1, by simpa using k2, by simpa using k3, hr⟩
    obtain ⟨q, hq⟩ := Go.Deep.choose_lt each
    refine ⟨fun i => (q i).1, fun i => (q i).2, ?_, by omega, fun i hi => (hq i hi).2.2.2.2⟩
    by_cases h0 : len = 0
    · exact .inl h0
    · obtain ⟨b, off, spot⟩ := y
      have hc0 := (hq 0 (by omega)).1
      have hspot : spot = none := by simpa [Addr.add] using World.cell?_spot hc0
      subst hspot
      have ea : ∀ i, (⟨b, off, none⟩ : Addr).add i = ⟨b, off + i, none⟩ := by intro i; unfold Addr.add; split <;> simp_all
      refine .inr ⟨b, off, rfl, fun i hi => ?_⟩
      obtain ⟨q0, q1, q2, q3, q4⟩ := hq i hi
      rw [ea] at q0 q1 q2 q3
      exact ⟨q0, q1, q2, q3, q4.rd⟩

/-- How much n records take. -/
def szR (R : Nat → Rc) : Nat → Nat
  | 0 => 0
  | i + 1 => szR R i + (R i).n + took (R i).Z (R i).n
theorem szR_mono (R : Nat → Rc) (k n : Nat) (h : k ≤ n) : szR R k ≤ szR R n := by
  induction n with
  | zero => have : k = 0 := by omega
            subst this; exact Nat.le_refl _
  | succ n ih =>
    by_cases e : k = n + 1
    · subst e; exact Nat.le_refl _
    · have := ih (by omega); simp only [szR]; omega
theorem szR_one (R : Nat → Rc) (k n : Nat) (h : k < n) : (R k).n + took (R k).Z (R k).n ≤ szR R n := by
  have := szR_mono R (k + 1) n h
  simp only [szR] at this
  omega
theorem tookR_sz (R : Nat → Rc) : ∀ n, tookR R n = 3 * n + szR R n
  | 0 => rfl
  | n + 1 => by have := tookR_sz R n; simp only [tookR, szR]; omega

set_option maxHeartbeats 1000000 in
theorem szRecordS_any (a : Option Addr) (n c : Nat) (R : Nat → Rc) (D : Nat → Ad) (k : Int) (w : World) (hk0 : 0 ≤ k) (hk1 : k ≤ 1048576) (hi : IsRecs w a n R D) :
    Calls Try.prog 49 #[.slice a n c, .int .i64 k] w fun e w' => (∃ r : Int, e = .returned (.int .i64 r) ∧ (r = -1 ∨ (0 ≤ r ∧ r = k - n - szR R n))) ∧ Below w.heap.size w w' := by
  have hm := hi.ln
  have HI : Hid (IsRecs w a n R D) := hi
  clear hi
  by_cases h : k < n
  · have d : (k - (n : Int) < 0) := by omega
    go_enter Try.func49, Try.ntmps49
    go_wp2_with fail
    go_ret
    exact ⟨⟨-1, rfl, .inl rfl⟩, Below.refl _ _⟩
  · have d : ¬ (k - (n : Int) < 0) := by omega
    by_cases h0 : n = 0
    · subst h0
      go_enter Try.func49, Try.ntmps49
      go_wp2_with fail
      go_rounds 1
      go_ret
      exact ⟨⟨k, by simp, .inr ⟨hk0, by simp [szR]⟩⟩, Below.refl _ _⟩
    obtain ⟨b, off, rfl⟩ : ∃ b off, a = some ⟨b, off, none⟩ := by
      rcases HI.out.rd with hr | ⟨b, off, e, _⟩
      · exact absurd hr h0
      · exact ⟨b, off, e⟩
    go_enter Try.func49, Try.ntmps49
    go_wp2_with fail
    go_loopw [5, 1] (fun i l wr => ∃ j : Nat, j ≤ n ∧ i = .int .i64 j ∧ l = .int .i64 (k - n - szR R j) ∧ n + szR R j ≤ k ∧ Below w.heap.size w wr) (fun i _ _ => n - (intOf i).toNat)
    case atStart => exact ⟨0, Nat.zero_le _, rfl, by simp [szR], by simp [szR]; omega, Below.refl _ _⟩
    case round =>
      obtain ⟨j, hj, rfl, rfl, hl, g⟩ := hrel
      by_cases hlt : j < n
      · obtain ⟨e0, e1, e2, e3, hrd⟩ := (HI.out.rd.below g (Nat.le_refl _)).at_ j hlt
        have hln := (HI.out.ir j hlt).ln
        have HZ : Hid (∀ i, i < (R j).n → ((R j).Z i).length ≤ 9223372036854775807) := (HI.out.ir j hlt).zl
        have hjn : (j : Int) < (n : Int) := by omega
        have HS : Hid (szR R (j + 1) = szR R j + (R j).n + took (R j).Z (R j).n) := rfl
        have HRd : Hid (RunsRead wr (D j).a (R j).n (R j).P (D j).A (D j).C (R j).Z) := hrd
        clear hrd
        go_wp2_with fail
        refine (szRecord_gen (R j).k (R j).t (R j).g (D j).a (R j).n (D j).c (R j).P (D j).A (D j).C (R j).Z _ _ (by omega) (by omega) hln HZ.out HRd.out).mono ?_
        rintro e w' ⟨⟨r, rfl, hr1⟩, g'⟩
        have g : Below w.heap.size w w' := g.trans (g'.mono g.size)
        clear g' e0 e1 e2 e3
        rcases hr1 with rfl | ⟨hr0, hr1⟩
        · go_wp2_with fail
          go_ret
          exact ⟨⟨-1, rfl, .inl rfl⟩, g⟩
        · have HR : Hid (r = k - n - szR R (j + 1)) := by show _ = _; rw [HS.out, hr1]; omega
          have hl' : n + szR R (j + 1) ≤ k := by have := HR.out; omega
          have dr : ¬ (r < 0) := by omega
          clear hr1
          go_wp2_with fail
          go_roundw
          case rel => exact ⟨j + 1, by omega, by go_num, by rw [← HR.out], hl', g⟩
          case measure => simp [intOf]; omega
      · have e : j = n := by omega
        subst e
        go_wp2_with fail
        go_ret
        exact ⟨⟨_, rfl, .inr ⟨by omega, rfl⟩⟩, g⟩

end Go.Proofs.Ytcjkjenebnodbaa

/-
  The model's DrawPackAll and DrawAppendLog.
-/
namespace Go.Proofs.Ytcjkjenebnodbaa
open Go.RowKit
set_option linter.unusedVariables false

/-- Records in a slice of one's own from n₀ on; the runs of each in no block of it, nor in the source's. -/
structure Rls (n₀ b : Nat) (W : World) (v : Value) (n : Nat) (R : Nat → Rc) (D : Nat → Ad) : Prop where
  row : W.ownsRow n₀ 36 4 v n (rcells R D n)
  rn : ∀ i, i < n → RunsX (fun k => v.ownBlock = some k ∨ k = b) W (D i).a (R i).n (R i).P (D i).A (D i).C (R i).Z
  ok : ∀ i, i < n → RnOk (R i).n (R i).Z
theorem rcells_congr2 {R R' : Nat → Rc} {D D' : Nat → Ad} : ∀ k, (∀ i, i < k → R i = R' i ∧ D i = D' i) → rcells R D k = rcells R' D' k
  | 0, _ => rfl
  | k + 1, h => by
    simp only [rcells]
    rw [rcells_congr2 k (fun i hi => h i (by omega)), (h k (by omega)).1, (h k (by omega)).2]
section
variable {n₀ b : Nat} {W W' : World} {v v' : Value} {n : Nat} {R : Nat → Rc} {D : Nat → Ad}
theorem Rls.below (h : Rls n₀ b W v n R D) (hb : Below W.heap.size W W') : Rls n₀ b W' v n R D := ⟨ownsRow_below h.row hb, fun i hi => (h.rn i hi).below hb, h.ok⟩
theorem Rls.src (h : Rls n₀ b W v n R D) (ht : Dr.Turned b (b + 1) W W') (hb : b < n₀) : Rls n₀ b W' v n R D := ⟨ownsRow_drTurned h.row ht hb, fun i hi => (h.rn i hi).src ht (.inr rfl), h.ok⟩
theorem Rls.add (h : Rls n₀ b W v n R D) {r : Rc} {d : Ad} (hx : RunsX (fun k => v.ownBlock = some k ∨ k = b) W d.a r.n r.P d.A d.C r.Z) (hk : RnOk r.n r.Z)
    (hrow : W'.ownsRow n₀ 36 4 v' (n + 1) (rcells R D n ++ [.int .i64 r.k, .int .i64 r.t, .int .i64 r.g, .slice d.a r.n d.c])) (hg : W.grownBy W' v.ownBlock) (hat : v'.ownBlock = v.ownBlock ∨ v'.ownBlock = some W.heap.size) :
    Rls n₀ b W' v' (n + 1) (fun i => if i = n then r else R i) (fun i => if i = n then d else D i) := by
  have key : ∀ {a : Option Addr} {m : Nat} {P : Nat → Int} {A : Nat → Option Addr} {C : Nat → Nat} {Z : Nat → List Int}, RunsX (fun k => v.ownBlock = some k ∨ k = b) W a m P A C Z → RunsX (fun k => v'.ownBlock = some k ∨ k = b) W' a m P A C Z := fun {a m P A C Z} hX => by
    have h1 := hX.less (X' := fun k => v.ownBlock = some k ∨ k = b ∨ k = W.heap.size) (fun k hk hh => by
      rcases hh with hh | hh | hh
      · exact .inl hh
      · exact .inr hh
      · omega)
    have h2 : RunsX (fun k => v.ownBlock = some k ∨ k = b ∨ k = W.heap.size) W' a m P A C Z := h1.kept (fun k hk hn => hg.block k hk (fun e => hn (.inl e.symm)))
    refine h2.less (fun k hk hh => ?_)
    rcases hh with hh | hh
    · rcases hat with e | e
      · exact .inl (by rw [← e]; exact hh)
      · rw [e] at hh; injection hh with hh; exact .inr (.inr hh.symm)
    · exact .inr (.inl hh)
  have hc : rcells R D n = rcells (fun i => if i = n then r else R i) (fun i => if i = n then d else D i) n := rcells_congr2 n (fun i hi => ⟨(if_neg (by omega)).symm, (if_neg (by omega)).symm⟩)
  refine ⟨?_, fun i hi => ?_, fun i hi => ?_⟩
  · simp only [rcells, if_true]
    rw [← hc]
    exact hrow
  · by_cases e : i = n
    · simp only [e, if_true]; exact key hx
    · simp only [e, if_false]; exact key (h.rn i (by omega))
  · by_cases e : i = n
    · simp only [e, if_true]; exact hk
    · simp only [e, if_false]; exact h.ok i (by omega)
theorem Rls.reads (h : Rls n₀ b W v n R D) : ∃ a c, v = .slice a n c ∧ RecsRead W a n R D := by
  rcases h.row.2 with ⟨e, h0⟩ | ⟨g, cap, cur, e, _⟩
  · exact ⟨none, 0, by rw [e, h0], .inl h0⟩
  · subst e
    refine ⟨some ⟨g, 0, none⟩, cap, rfl, .inr ⟨g, 0, rfl, fun i hi => ?_⟩⟩
    obtain ⟨h1, h2, h3, h4⟩ := rcells_at R D n i hi
    have hl := rcells_length R D n
    refine ⟨?_, ?_, ?_, ?_, (h.rn i hi).reads⟩
    · rw [Nat.zero_add, h.row.cellAt (i * 4) (by omega)]; exact h1
    · rw [Nat.zero_add, h.row.cellAt (i * 4 + 1) (by omega)]; exact h2
    · rw [Nat.zero_add, h.row.cellAt (i * 4 + 2) (by omega)]; exact h3
    · rw [Nat.zero_add, h.row.cellAt (i * 4 + 3) (by omega)]; exact h4
/-- What was drawn stands in newer blocks than the slice and the source. -/
theorem RunsLo.toX {lo : Nat} {w : World} {a : Option Addr} {m : Nat} {P : Nat → Int} {A : Nat → Option Addr} {C : Nat → Nat} {Z : Nat → List Int} (h : RunsLo lo w a m P A C Z) (hv : ∀ g, v.ownBlock = some g → g < lo) (hb : b < lo) : RunsX (fun k => v.ownBlock = some k ∨ k = b) w a m P A C Z :=
  h.x.less (fun k _ hh => by
    rcases hh with hh | hh
    · exact hv k hh
    · rw [hh]; exact hb)
end

/-- What DrawPackAll hands back. -/
def DpPost (w : World) (e : Ending) (w' : World) : Prop := ∃ a m c R D, e = .returned (.slice a m c) ∧ m ≤ 6 ∧ RecsRead w' a m R D ∧ (∀ i, i < m → RnOk (R i).n (R i).Z) ∧ Below w.heap.size w w'

set_option maxRecDepth 20000 in
set_option maxHeartbeats 8000000 in
theorem drawPackAll_any (a : Option Addr) (n c : Nat) (zs : List Int) (w : World) (rd : Dr.Reads w a zs) (hn : zs.length = n) (hm : n ≤ 1048576) (hz : ∀ z ∈ zs, 0 ≤ z ∧ z ≤ 255) :
    Calls Try.prog 16 #[.slice a n c] w fun e w' => DpPost w e w' := by
  obtain ⟨i6, hi6, hz60, hz61, hz62⟩ := info36
  go_enter Try.func16, Try.ntmps16
  go_upto_region 2 with (go_at_call 66; refine (Dr.l1Source_any a n c zs _ rd hn hm hz).mono ?_; rintro e w1 ⟨rfl, g1, hl1, hS⟩)
  clear rd hn hm hz
  have hwb : w.heap.size ≤ w.heap.size := Nat.le_refl _
  generalize hbb : w.heap.size = b at hS hl1 hwb ⊢
  have gA : Below w.heap.size w w1 := g1
  clear g1
  go_upto_region 3 with (fail)
  have gL : Below w1.heap.size w1 (w1.alloc (.cells #[] 36)) := by go_grown
  have hR0 : Rls (b + 1) b (w1.alloc (.cells #[] 36)) (.slice (some ⟨w1.heap.size, 0, none⟩) 0 0) 0 (fun _ => ⟨0, 0, 0, 0, fun _ => 0, fun _ => []⟩) (fun _ => ⟨none, 0, fun _ => none, fun _ => 0, fun _ => 0, 0, 0⟩) :=
    ⟨by simpa [rcells] using World.ownsRow_lit (base := b + 1) (e := 36) (size := 4) w1 #[] 0 hl1 (by simp) (by decide), fun i hi => by omega, fun i hi => by omega⟩
  have hS := hS.below gL
  have gA := gA.trans (gL.mono gA.size)
  generalize w1.alloc (.cells #[] 36) = W1 at hR0 hS gA ⊢
  generalize w1.heap.size = g1 at hR0 ⊢
  clear gL hl1
  go_wp2_with fail
  refine (Dr.l1Next_any b a n c zs _ 6 _ hS (by omega) (by omega) (by omega)).mono ?_
  rintro e w2 ⟨⟨r, rfl, r0, r1⟩, ht, hS⟩
  have hR0 := hR0.src ht (Nat.lt_succ_self _)
  have gA : Below w.heap.size w w2 := gA.trans ⟨ht.os, ht.tape, ht.output, ht.size, fun k hk => ht.block k (Nat.lt_of_lt_of_le hk gA.size) (by omega)⟩
  clear ht
  obtain ⟨r', rfl⟩ : ∃ r' : Nat, r = r' := ⟨r.toNat, by omega⟩
  go_wp2_with fail
  go_loopw [5, 4] (fun kk v wr => ∃ (q m : Nat) (R : Nat → Rc) (D : Nat → Ad) (j : Int), q + m ≤ 5 ∧ kk = .int .i64 q ∧ Rls (b + 1) b wr v m R D ∧ Below w.heap.size w wr ∧ j ≤ 1 + 400 * (m : Int) ∧ Dr.SrcAt wr b a n c zs j) (fun kk v wr => (intOf kk).toNat)
  case atStart => exact ⟨r', 0, _, _, _, by omega, rfl, hR0, gA, by omega, hS⟩
  case round =>
    clear hR0 hS gA
    obtain ⟨q, m, R, D, j, hq, rfl, hR, gA, hj, hS⟩ := hrel
    by_cases h0 : q = 0
    · subst h0
      have hk0 : ¬ ((0 : Int) < ((0 : Nat) : Int)) := by simp
      obtain ⟨va, vc, hv, _⟩ := hR.reads
      subst hv
      go_wp2_with fail
      refine (Dr.l1Chance_any b a n c zs _ 8 _ hS (by omega) (by omega) (by omega)).mono ?_
      rintro e w3 ⟨⟨ch, rfl⟩, ht, hS⟩
      have hR := hR.src ht (Nat.lt_succ_self _)
      have gA : Below w.heap.size w w3 := gA.trans ⟨ht.os, ht.tape, ht.output, ht.size, fun k hk => ht.block k (Nat.lt_of_lt_of_le hk gA.size) (by omega)⟩
      clear ht
      cases ch
      · have HF : Hid (DpPost w (.returned (.slice va m vc)) w3) := by
          obtain ⟨a', c', e', hrd⟩ := hR.reads
          simp only [Value.slice.injEq, true_and] at e'
          obtain ⟨rfl, rfl⟩ := e'
          exact ⟨_, m, _, R, D, rfl, by omega, hrd, hR.ok, gA⟩
        clear hR gA hS
        go_wp2_with fail
        go_ret
        exact HF.out
      · have hbl := hS.lt
        go_wp2_with fail
        refine (l4Bent_any b a n c zs _ _ hS (by omega)).mono ?_
        rintro e w4 ⟨⟨k, tx, pg, aa, l, ec, P, A, C, Z, rfl, hOk, hRL, ht⟩, ⟨j2, hj2, hS⟩⟩
        have hX := hRL.toX (v := .slice va m vc) (b := b) (fun g e => (World.ownsRow.lt hR.row g e).2) hbl
        have hR := hR.src ht (Nat.lt_succ_self _)
        have gA : Below w.heap.size w w4 := gA.trans ⟨ht.os, ht.tape, ht.output, ht.size, fun k hk => ht.block k (Nat.lt_of_lt_of_le hk gA.size) (by omega)⟩
        clear ht hRL
        have gb : Below w4.heap.size w4 (w4.alloc (.cells #[.int .i64 k, .int .i64 tx, .int .i64 pg, .slice aa l ec] 36)) := by go_grown
        have hR8 := hR.below gb
        have hX8 := hX.below gb
        have hS8 := hS.below gb
        have gA8 := gA.trans (gb.mono gA.size)
        have hb8 : b < w4.heap.size := hS.lt
        go_wp2_with (at_builtin; refine wpList_append_own_at _ rfl _ _ 24 rfl (b + 1) 36 i6 (.agg #[.int .i64 0, .int .i64 0, .int .i64 0, .slice none 0 0]) 4 48 Try.underlying24 hi6 hz60 hz61 hz62 rfl (by decide) _ _ _ rfl hR8.row ⟨w4.heap.size, 0, none⟩ 1 1 [.int .i64 k, .int .i64 tx, .int .i64 pg, .slice aa l ec] rfl rfl ?n1 ?n2 ?n3 ?n4 ?n5 ?_)
        case n1 =>
          intro i u hu
          match i, hu with
          | 0, hu => simp at hu; subst hu; simp [go_sem, Addr.add]
          | 1, hu => simp at hu; subst hu; simp [go_sem, Addr.add]
          | 2, hu => simp at hu; subst hu; simp [go_sem, Addr.add]
          | 3, hu => simp at hu; subst hu; simp [go_sem, Addr.add]
        case n2 =>
          intro u hu
          simp at hu
          rcases hu with rfl | rfl | rfl | rfl <;> rfl
        case n3 => unfold maxLen; omega
        case n4 => omega
        case n5 => simp; omega
        intro v' w9 hown' hgrow _ hat
        have hR9 := hR8.add (r := ⟨k, tx, pg, l, P, Z⟩) (d := ⟨aa, ec, A, C, fun _ => 0, 0, 0⟩) hX8 hOk hown' hgrow (hat.imp id (fun h => h.trans (by simp)))
        have g9 : Below w.heap.size w w9 := Below.grown gA8 hgrow (by have := gA8.size; omega) (fun q e => by have := (World.ownsRow.lt hR8.row q e).1; omega)
        have hS9 : Dr.SrcAt w9 b a n c zs _ := hS8.low (Below.grown (Below.refl (b + 1) _) hgrow (by simp; omega) (fun q e => (World.ownsRow.lt hR8.row q e).1)) (Nat.lt_succ_self _)
        have HF : Hid (DpPost w (.returned v') w9) := by
          obtain ⟨a', c', e', hrd⟩ := hR9.reads
          exact ⟨_, m + 1, _, _, _, by rw [e'], by omega, hrd, hR9.ok, g9⟩
        clear hR9 g9 hS9 hR8 hX8 hS8 gA8 hown' hgrow hat hX hR gA hS gb hb8
        go_wp2_with fail
        go_ret
        exact HF.out
    · have hq0 : (0 : Int) < (q : Int) := by omega
      obtain ⟨va, vc, hv, _⟩ := hR.reads
      subst hv
      have hbl := hS.lt
      go_wp2_with fail
      refine (l4Draw_any b a n c zs j _ hS (by omega)).mono ?_
      rintro e w4 ⟨⟨k, tx, pg, aa, l, ec, P, A, C, Z, rfl, hOk', hRL, ht⟩, ⟨j2, hj2, hS⟩⟩
      have hOk := hOk'.rn
      have hX := hRL.toX (v := .slice va m vc) (b := b) (fun g e => (World.ownsRow.lt hR.row g e).2) hbl
      have hR := hR.src ht (Nat.lt_succ_self _)
      have gA : Below w.heap.size w w4 := gA.trans ⟨ht.os, ht.tape, ht.output, ht.size, fun k hk => ht.block k (Nat.lt_of_lt_of_le hk gA.size) (by omega)⟩
      clear ht hRL hOk'
      have gb : Below w4.heap.size w4 (w4.alloc (.cells #[.int .i64 k, .int .i64 tx, .int .i64 pg, .slice aa l ec] 36)) := by go_grown
      have hR8 := hR.below gb
      have hX8 := hX.below gb
      have hS8 := hS.below gb
      have gA8 := gA.trans (gb.mono gA.size)
      have hb8 : b < w4.heap.size := hS.lt
      go_wp2_with (at_builtin; refine wpList_append_own_at _ rfl _ _ 24 rfl (b + 1) 36 i6 (.agg #[.int .i64 0, .int .i64 0, .int .i64 0, .slice none 0 0]) 4 48 Try.underlying24 hi6 hz60 hz61 hz62 rfl (by decide) _ _ _ rfl hR8.row ⟨w4.heap.size, 0, none⟩ 1 1 [.int .i64 k, .int .i64 tx, .int .i64 pg, .slice aa l ec] rfl rfl ?n1 ?n2 ?n3 ?n4 ?n5 ?_)
      case n1 =>
        intro i u hu
        match i, hu with
        | 0, hu => simp at hu; subst hu; simp [go_sem, Addr.add]
        | 1, hu => simp at hu; subst hu; simp [go_sem, Addr.add]
        | 2, hu => simp at hu; subst hu; simp [go_sem, Addr.add]
        | 3, hu => simp at hu; subst hu; simp [go_sem, Addr.add]
      case n2 =>
        intro u hu
        simp at hu
        rcases hu with rfl | rfl | rfl | rfl <;> rfl
      case n3 => unfold maxLen; omega
      case n4 => omega
      case n5 => simp; omega
      intro v' w9 hown' hgrow _ hat
      have hR9 := hR8.add (r := ⟨k, tx, pg, l, P, Z⟩) (d := ⟨aa, ec, A, C, fun _ => 0, 0, 0⟩) hX8 hOk hown' hgrow (hat.imp id (fun h => h.trans (by simp)))
      have g9 : Below w.heap.size w w9 := Below.grown gA8 hgrow (by have := gA8.size; omega) (fun q e => by have := (World.ownsRow.lt hR8.row q e).1; omega)
      have hS9 : Dr.SrcAt w9 b a n c zs _ := hS8.low (Below.grown (Below.refl (b + 1) _) hgrow (by simp; omega) (fun q e => (World.ownsRow.lt hR8.row q e).1)) (Nat.lt_succ_self _)
      clear hR8 hX8 hS8 gA8 hown' hgrow hat hX hR gA hS gb hb8 hOk
      go_wp2_with fail
      go_roundw
      · exact ⟨q - 1, m + 1, _, _, j2, by omega, by congr 1; omega, hR9, g9, by omega, hS9⟩
      · simp [intOf]
        omega

/-- What DrawAppendLog hands back. -/
def DaPost (w : World) (e : Ending) (w' : World) : Prop := ∃ x y xs ys n c m d k tx pg a l ec P A C Z, e = .returned (.tuple #[.agg #[.slice x n c, .slice y m d], .agg #[.int .i64 k, .int .i64 tx, .int .i64 pg, .slice a l ec]]) ∧ Lb w.heap.size 18000 w' x y xs ys n c m d ∧ RnOk l Z ∧ RunsRead w' a l P A C Z ∧ Below w.heap.size w w'

end Go.Proofs.Ytcjkjenebnodbaa
