/-
  Runs in memory: what a slice of runs holds; szRunS.
-/
import Derived.Test.YteebbaleejbodaaARBy
import Derived.Test.YteebbaleejbodaaARPgs
import Derived.Deep.Cut
import Derived.Deep.MidRow
import Derived.Laws.CopyOwn

namespace Go.Proofs.Yteebbaleejbodaa
open Go.RowKit
set_option linter.unusedVariables false

/-- The slice that begins at a reads as n runs: of the i-th the place P i and the bytes Z i, which stand at A i, with the capacity C i. -/
def RunsRead (w : World) (a : Option Addr) (n : Nat) (P : Nat → Int) (A : Nat → Option Addr) (C : Nat → Nat) (Z : Nat → List Int) : Prop :=
  n = 0 ∨ ∃ b off, a = some ⟨b, off, none⟩ ∧ (∀ i, i < n → w.cell? ⟨b, off + i * 2, none⟩ = some (.int .i64 (P i)) ∧ w.cell? ⟨b, off + i * 2 + 1, none⟩ = some (.slice (A i) (Z i).length (C i)) ∧ Reads w (A i) (Z i))

theorem RunsRead.below {w w' : World} {a : Option Addr} {n : Nat} {P : Nat → Int} {A : Nat → Option Addr} {C : Nat → Nat} {Z : Nat → List Int} (h : RunsRead w a n P A C Z) {B : Nat} (hb : Below B w w') (hB : w.heap.size ≤ B) : RunsRead w' a n P A C Z := by
  rcases h with h | ⟨b, off, ha, hc⟩
  · exact .inl h
  · refine .inr ⟨b, off, ha, fun i hi => ?_⟩
    obtain ⟨h0, h1, h2⟩ := hc i hi
    exact ⟨(hb.cell (p := ⟨b, _, none⟩) (Nat.lt_of_lt_of_le (World.block_lt_of_cell? w _ h0) hB)).trans h0, (hb.cell (p := ⟨b, _, none⟩) (Nat.lt_of_lt_of_le (World.block_lt_of_cell? w _ h1) hB)).trans h1, h2.below hb hB⟩

/-- How much the first k runs take. -/
def took (Z : Nat → List Int) : Nat → Nat
  | 0 => 0
  | k + 1 => took Z k + (Z k).length

theorem took_mono (Z : Nat → List Int) (k n : Nat) (h : k ≤ n) : took Z k ≤ took Z n := by
  induction n with
  | zero => have : k = 0 := by omega
            subst this; exact Nat.le_refl _
  | succ n ih =>
    by_cases e : k = n + 1
    · subst e; exact Nat.le_refl _
    · have := ih (by omega); simp only [took]; omega
theorem took_one (Z : Nat → List Int) (k n : Nat) (h : k < n) : (Z k).length ≤ took Z n := by
  have := took_mono Z (k + 1) n h
  simp only [took] at this
  omega

end Go.Proofs.Yteebbaleejbodaa

/-
  Runs in memory: what a slice of runs holds; szRunS.
-/
namespace Go.Proofs.Yteebbaleejbodaa
open Go.RowKit
set_option linter.unusedVariables false

set_option maxHeartbeats 400000 in
theorem szRun_any (p : Int) (a : Option Addr) (n c : Nat) (k : Int) (w : World) (hm : n ≤ 9223372036854775807) (hk0 : 0 ≤ k) (hk1 : k ≤ 1048576) :
    Calls Try.prog 126 #[.agg #[.int .i64 p, .slice a n c], .int .i64 k] w fun e w' => e = .returned (.int .i64 (szQ k n)) ∧ Below w.heap.size w w' := by
  obtain ⟨r, hr⟩ : ∃ r : Int, r = szQ k n := ⟨_, rfl⟩
  have HR : Hid (r = szQ k n) := hr
  have hr1 : r = -1 ∨ 0 ≤ r := by rw [hr]; unfold szQ; split <;> omega
  go_enter Try.func126, Try.ntmps126
  go_wp2_with fail
  refine (szByteS_any a n c k _ hm hk0 hk1).mono ?_
  rintro e w' ⟨rfl, hw'⟩
  subst w'
  rw [← hr]
  clear hr
  rcases hr1 with hr1 | hr1
  · subst hr1
    go_wp2_with fail
    go_ret
    exact ⟨by rw [← HR.out]; rfl, by go_grown⟩
  · have d : ¬ (r < 0) := by omega
    go_wp2_with fail
    go_ret
    exact ⟨by rw [← HR.out]; rfl, by go_grown⟩

set_option maxHeartbeats 400000 in
theorem szRunS_any (a : Option Addr) (n c : Nat) (P : Nat → Int) (A : Nat → Option Addr) (C : Nat → Nat) (Z : Nat → List Int) (w : World) (hm : n ≤ 9223372036854775807) (hz : ∀ i, i < n → (Z i).length ≤ 9223372036854775807) (hr : RunsRead w a n P A C Z) :
    Calls Try.prog 74 #[.slice a n c, .int .i64 1048576] w fun e w' => (∃ r : Int, e = .returned (.int .i64 r) ∧ (0 ≤ r → n + took Z n ≤ 1048576)) ∧ Below w.heap.size w w' := by
  by_cases h : (1048576 : Int) < n
  · have d : ((1048576 : Int) - (n : Int) < 0) := by omega
    go_enter Try.func74, Try.ntmps74
    go_wp2_with fail
    go_ret
    exact ⟨⟨-1, rfl, by omega⟩, Below.refl _ _⟩
  · have d : ¬ ((1048576 : Int) - (n : Int) < 0) := by omega
    by_cases h0 : n = 0
    · subst h0
      go_enter Try.func74, Try.ntmps74
      go_wp2_with fail
      go_rounds 1
      go_ret
      exact ⟨⟨1048576, rfl, by simp [took]⟩, Below.refl _ _⟩
    rcases hr with hr | ⟨b, off, rfl, hc⟩
    · exact absurd hr h0
    have hb0 : b < w.heap.size := World.block_lt_of_cell? w _ (hc 0 (by omega)).1
    go_enter Try.func74, Try.ntmps74
    go_wp2_with fail
    go_loopw [5, 1] (fun i l wr => ∃ j : Nat, j ≤ n ∧ i = .int .i64 j ∧ l = .int .i64 (1048576 - n - took Z j) ∧ n + took Z j ≤ 1048576 ∧ Below w.heap.size w wr) (fun i _ _ => n - (intOf i).toNat)
    case atStart => exact ⟨0, Nat.zero_le _, rfl, by simp [took], by simp [took]; omega, Below.refl _ _⟩
    case round =>
      obtain ⟨j, hj, rfl, rfl, hl, g⟩ := hrel
      by_cases hlt : j < n
      · obtain ⟨e0, e1, _⟩ := hc j hlt
        have e0 := (g.cell (p := ⟨b, off + j * 2, none⟩) hb0).trans e0
        have e1 := (g.cell (p := ⟨b, off + j * 2 + 1, none⟩) hb0).trans e1
        have hjn : (j : Int) < (n : Int) := by omega
        clear hc
        have hq : Hid (∀ r, r = szQ (1048576 - n - took Z j) (Z j).length → r = -1 ∨ (0 ≤ r ∧ r = 1048576 - n - took Z (j + 1))) := by
          intro r hr
          rw [hr]
          unfold szQ
          simp only [took]
          split <;> omega
        go_wp2_with fail
        refine (szRun_any (P j) (A j) (Z j).length (C j) _ _ (hz j hlt) (by omega) (by omega)).mono ?_
        rintro e w' ⟨rfl, g'⟩
        have g : Below w.heap.size w w' := g.trans (g'.mono g.size)
        clear g' e0 e1
        obtain ⟨r, hr⟩ : ∃ r, r = szQ (1048576 - n - took Z j) (Z j).length := ⟨_, rfl⟩
        have hr1 := hq.out r hr
        rw [← hr]
        clear hr hq
        rcases hr1 with rfl | ⟨hr0, hr1⟩
        · go_wp2_with fail
          go_ret
          exact ⟨⟨-1, rfl, by omega⟩, g⟩
        · have HR : Hid (r = 1048576 - n - took Z (j + 1)) := hr1
          have hl' : n + took Z (j + 1) ≤ 1048576 := by omega
          have dr : ¬ (r < 0) := by omega
          clear hr1
          go_wp2_with fail
          go_roundw
          case rel => exact ⟨j + 1, by omega, by go_num, by rw [← HR.out], hl', g⟩
          case measure => simp [intOf]; omega
      · have e : j = n := by omega
        subst e
        go_wp2_with fail
        go_ret
        exact ⟨⟨_, rfl, fun _ => hl⟩, g⟩

end Go.Proofs.Yteebbaleejbodaa

/-
  Runs of one's own memory: toRunS, eqRunS.
-/
namespace Go.Proofs.Yteebbaleejbodaa
open Go.RowKit
set_option linter.unusedVariables false

/-- Block b, one of lo to below hi, holds n runs: of the i-th the place P i and the bytes Z i, which stand at A i in block F i; no two share any. -/
structure Own (lo hi : Nat) (w : World) (b n : Nat) (P : Nat → Int) (A : Nat → Option Addr) (C : Nat → Nat) (Z : Nat → List Int) (F : Nat → Nat) : Prop where
  l0 : lo ≤ b
  h0 : b < hi
  c0 : ∀ i, i < n → w.cell? ⟨b, i * 2, none⟩ = some (.int .i64 (P i))
  c1 : ∀ i, i < n → w.cell? ⟨b, i * 2 + 1, none⟩ = some (.slice (A i) (Z i).length (C i))
  f0 : ∀ i, i < n → w.frozen? ⟨b, i * 2, none⟩ = false
  f1 : ∀ i, i < n → w.frozen? ⟨b, i * 2 + 1, none⟩ = false
  by' : ∀ i, i < n → BytesIn (F i) (F i + 1) w (A i) (Z i)
  fr : ∀ i, i < n → Z i ≠ [] → lo ≤ F i ∧ F i < hi ∧ F i ≠ b
  ne : ∀ i j, i < n → j < n → i ≠ j → Z i ≠ [] → Z j ≠ [] → F i ≠ F j

section
variable {lo hi b n : Nat} {w w' : World} {P : Nat → Int} {A : Nat → Option Addr} {C : Nat → Nat} {Z : Nat → List Int} {F : Nat → Nat}

theorem Own.reads (h : Own lo hi w b n P A C Z F) : RunsRead w (some ⟨b, 0, none⟩) n P A C Z :=
  .inr ⟨b, 0, rfl, fun i hi => ⟨by rw [Nat.zero_add]; exact h.c0 i hi, by rw [Nat.zero_add]; exact h.c1 i hi, (h.by' i hi).reads⟩⟩

theorem BytesIn.turnedE {l u : Nat} {a : Option Addr} {zs : List Int} (h : BytesIn l u w a zs) {x y : Nat} (ht : Turned x y w w') (hn : zs ≠ [] → u ≤ x ∨ y ≤ l) : BytesIn l u w' a zs := by
  by_cases e : zs = []
  · exact .inl e
  · exact h.turned ht (hn e)

theorem Own.turned (h : Own lo hi w b n P A C Z F) {x y : Nat} (ht : Turned x y w w') (hn : hi ≤ x ∨ y ≤ lo) : Own lo hi w' b n P A C Z F := by
  have h1 := h.l0
  have h2 := h.h0
  exact ⟨h.l0, h.h0, fun i hi => ht.cell (h.c0 i hi) (by simp only; omega), fun i hi => ht.cell (h.c1 i hi) (by simp only; omega),
    fun i hi => (ht.frozen (h.c0 i hi) (by simp only; omega)).trans (h.f0 i hi), fun i hi => (ht.frozen (h.c1 i hi) (by simp only; omega)).trans (h.f1 i hi),
    fun i hi => (h.by' i hi).turnedE ht (fun e => by have := h.fr i hi e; omega), h.fr, h.ne⟩

theorem Own.below (h : Own lo hi w b n P A C Z F) (hb : Below w.heap.size w w') : Own lo hi w' b n P A C Z F :=
  h.turned (x := hi) (y := hi) (Turned.ofBelow hb) (.inl (Nat.le_refl _))

theorem Own.mono (h : Own lo hi w b n P A C Z F) {lo' hi' : Nat} (hl : lo' ≤ lo) (hh : hi ≤ hi') : Own lo' hi' w b n P A C Z F :=
  ⟨Nat.le_trans hl h.l0, Nat.lt_of_lt_of_le h.h0 hh, h.c0, h.c1, h.f0, h.f1, h.by', fun i hi e => by have := h.fr i hi e; omega, h.ne⟩
end

theorem infoEd' : (Try.prog.info? 192).map (fun i => (i.zero, i.size, i.bytes)) = some (some (.agg #[.int .i64 0, .slice none 0 0]), 2, 32) := by kernel_rfl
theorem infoEd : ∃ i, Try.prog.info? 192 = some i ∧ i.zero = some (.agg #[.int .i64 0, .slice none 0 0]) ∧ i.size = 2 ∧ i.bytes = 32 := by
  have h := infoEd'
  cases hi : Try.prog.info? 192 with
  | none => rw [hi] at h; simp at h
  | some i => rw [hi] at h; simp at h; exact ⟨i, rfl, h.1, h.2.1, h.2.2⟩

/-- Block g holds n runs, of which k are there (their bytes in blocks above g), the others are not yet. -/
structure Part (w : World) (g n k : Nat) (P : Nat → Int) (Z : Nat → List Int) (A : Nat → Option Addr) (F : Nat → Nat) : Prop where
  c0 : ∀ i, i < k → w.cell? ⟨g, i * 2, none⟩ = some (.int .i64 (P i))
  c1 : ∀ i, i < k → w.cell? ⟨g, i * 2 + 1, none⟩ = some (.slice (A i) (Z i).length (Z i).length)
  r0 : ∀ i, k ≤ i → i < n → w.cell? ⟨g, i * 2, none⟩ = some (.int .i64 0)
  r1 : ∀ i, k ≤ i → i < n → w.cell? ⟨g, i * 2 + 1, none⟩ = some (.slice none 0 0)
  f0 : ∀ i, i < n → w.frozen? ⟨g, i * 2, none⟩ = false
  f1 : ∀ i, i < n → w.frozen? ⟨g, i * 2 + 1, none⟩ = false
  by' : ∀ i, i < k → BytesIn (F i) (F i + 1) w (A i) (Z i)
  fr : ∀ i, i < k → g < F i ∧ F i ≤ w.heap.size
  ne : ∀ i j, i < j → j < k → F i < F j

theorem Part.own {w : World} {g n : Nat} {P : Nat → Int} {Z : Nat → List Int} {A : Nat → Option Addr} {F : Nat → Nat} (h : Part w g n n P Z A F) (hg : g < w.heap.size) : Own g w.heap.size w g n P A (fun i => (Z i).length) Z F :=
  ⟨Nat.le_refl _, hg, h.c0, h.c1, h.f0, h.f1, h.by', fun i hi e => by
    have h1 := h.fr i hi
    rcases h.by' i hi with h2 | ⟨b, o, _, h3, h4, hc, _⟩
    · exact absurd h2 e
    · have h5 : 0 < (Z i).length := List.length_pos_iff.2 e
      have h6 : b < w.heap.size := World.block_lt_of_cell? w _ (hc 0 h5)
      omega, fun i j hi hj hne _ _ => by
    rcases Nat.lt_or_gt_of_ne hne with h1 | h1
    · have := h.ne i j h1 hj; omega
    · have := h.ne j i h1 hi; omega⟩

theorem Part.step {w w' : World} {g n k : Nat} {P : Nat → Int} {Z : Nat → List Int} {A : Nat → Option Addr} {F : Nat → Nat} (h : Part w g n k P Z A F) (hk : k < n) (hg : g < w.heap.size) (hb : Below w.heap.size w w') (hs : w.heap.size + 3 ≤ w'.heap.size)
    (hy : BytesIn (w.heap.size + 3) (w.heap.size + 4) w' (some ⟨w.heap.size + 3, 0, none⟩) (Z k)) :
    Part ((w'.setCell ⟨g, k * 2, none⟩ (.int .i64 (P k))).setCell ⟨g, k * 2 + 1, none⟩ (.slice (some ⟨w.heap.size + 3, 0, none⟩) (Z k).length (Z k).length)) g n (k + 1) P Z
      (fun i => if i = k then some ⟨w.heap.size + 3, 0, none⟩ else A i) (fun i => if i = k then w.heap.size + 3 else F i) := by
  have cc : ∀ o v, w.cell? ⟨g, o, none⟩ = some v → w'.cell? ⟨g, o, none⟩ = some v := fun o v hv => (hb.cell (p := ⟨g, o, none⟩) hg).trans hv
  have ff : ∀ o, w.frozen? ⟨g, o, none⟩ = false → w'.frozen? ⟨g, o, none⟩ = false := fun o hv => (hb.frozen (p := ⟨g, o, none⟩) hg).trans hv
  have d0 := cc _ _ (h.r0 k (Nat.le_refl _) hk)
  have d1 := cc _ _ (h.r1 k (Nat.le_refl _) hk)
  have o1 : ∀ o v u, o ≠ k * 2 → o ≠ k * 2 + 1 → w.cell? ⟨g, o, none⟩ = some v → ((w'.setCell ⟨g, k * 2, none⟩ (.int .i64 (P k))).setCell ⟨g, k * 2 + 1, none⟩ u).cell? ⟨g, o, none⟩ = some v := fun o v u h1 h2 hv => by
    rw [World.cell?_setCell_other _ _ _ _ (fun e => h2 (by have := congrArg Addr.off e; simp at this; omega)), World.cell?_setCell_other _ _ _ _ (fun e => h1 (by have := congrArg Addr.off e; simp at this; omega))]
    exact cc _ _ hv
  refine ⟨fun i hi => ?_, fun i hi => ?_, fun i h1 h2 => ?_, fun i h1 h2 => ?_, fun i hi => ?_, fun i hi => ?_, fun i hi => ?_, fun i hi => ?_, fun i j h1 h2 => ?_⟩
  · by_cases e : i = k
    · subst e
      rw [World.cell?_setCell_other _ _ _ _ (fun e => by have := congrArg Addr.off e; simp at this), World.cell?_setCell_same _ _ _ d0]
    · exact o1 _ _ _ (by omega) (by omega) (h.c0 i (by omega))
  · by_cases e : i = k
    · subst e
      simp only [if_true]
      exact World.cell?_setCell_same _ _ _ (by rw [World.cell?_setCell_other _ _ _ _ (fun e => by have := congrArg Addr.off e; simp at this)]; exact d1)
    · simp only [if_neg e]
      exact o1 _ _ _ (by omega) (by omega) (h.c1 i (by omega))
  · exact o1 _ _ _ (by omega) (by omega) (h.r0 i (by omega) h2)
  · exact o1 _ _ _ (by omega) (by omega) (h.r1 i (by omega) h2)
  · rw [World.frozen?_setCell, World.frozen?_setCell]; exact ff _ (h.f0 i hi)
  · rw [World.frozen?_setCell, World.frozen?_setCell]; exact ff _ (h.f1 i hi)
  · by_cases e : i = k
    · subst e
      simp only [if_true]
      exact (hy.setCell (by simp; omega) _).setCell (by simp; omega) _
    · simp only [if_neg e]
      have hf := h.fr i (by omega)
      exact (((h.by' i (by omega)).below hb).setCell (by simp; omega) _).setCell (by simp; omega) _
  · rw [World.size_setCell, World.size_setCell]
    by_cases e : i = k
    · subst e
      simp only [if_true]
      omega
    · simp only [if_neg e]
      have hf := h.fr i (by omega)
      omega
  · have hf := h.fr i
    by_cases e : j = k
    · subst e
      have hf := h.fr i h1
      simp only [if_true, if_neg (show ¬ i = j by omega)]
      omega
    · simp only [if_neg e, if_neg (show ¬ i = k by omega)]
      exact h.ne i j h1 (by omega)

theorem RunsRead.at_ {w : World} {b off : Nat} {n : Nat} {P : Nat → Int} {A : Nat → Option Addr} {C : Nat → Nat} {Z : Nat → List Int} (h : RunsRead w (some ⟨b, off, none⟩) n P A C Z) (i : Nat) (hi : i < n) :
    w.cell? ⟨b, off + i * 2, none⟩ = some (.int .i64 (P i)) ∧ w.cell? ⟨b, off + i * 2 + 1, none⟩ = some (.slice (A i) (Z i).length (C i)) ∧ Reads w (A i) (Z i) := by
  rcases h with h | ⟨b', off', ha, hc⟩
  · omega
  · simp only [Option.some.injEq, Addr.mk.injEq, and_true] at ha
    obtain ⟨rfl, rfl⟩ := ha
    exact hc i hi

theorem eqKeepE {w W V : World} {S : World → Prop} (h : ∀ V, Below w.heap.size w V → S V) (h1 : Below w.heap.size w W) (hb : Below W.heap.size W V) : Below w.heap.size w V ∧ S V :=
  ⟨h1.trans (hb.mono h1.size), h V (h1.trans (hb.mono h1.size))⟩

theorem eqKeepDE {w V : World} {S : World → Prop} (h : ∀ V, Below w.heap.size w V → S V) (hb : Below w.drew.heap.size w.drew V) : Below w.heap.size w V ∧ S V :=
  eqKeepE h (Below.refl _ _).drew hb

theorem made_pair0 (n i : Nat) (h : i * 2 < n) : (madeCells (Value.agg #[.int .i64 0, .slice none 0 0]).cells n).toList[i * 2]? = some (.int .i64 0) := by
  have h1 : i * 2 % 2 = 0 := by omega
  simp [madeCells, Value.cells, h, h1]
theorem made_pair1 (n i : Nat) (h : i * 2 + 1 < n) : (madeCells (Value.agg #[.int .i64 0, .slice none 0 0]).cells n).toList[i * 2 + 1]? = some (.slice none 0 0) := by
  have h1 : (i * 2 + 1) % 2 = 1 := by omega
  simp [madeCells, Value.cells, h, h1]

set_option maxHeartbeats 400000 in
theorem eqRun_same (p : Int) (a b : Option Addr) (la lb ua ub : Nat) (zs : List Int) (n c d : Nat) (w : World) (hn : zs.length = n) (hm : n ≤ 140737488351232) (ha : BytesIn la ua w a zs) (hb : BytesIn lb ub w b zs) :
    Calls Try.prog 135 #[.agg #[.int .i64 p, .slice a n c], .agg #[.int .i64 p, .slice b n d]] w fun e w' => e = .returned (.bool true) ∧ Below w.heap.size w w' := by
  go_enter Try.func135, Try.ntmps135
  go_wp2_with fail
  refine (eqByteS_same a b la lb ua ub zs n c d _ hn hm (ha.below (by go_grown)) (hb.below (by go_grown))).mono ?_
  rintro e w' ⟨rfl, m, rfl⟩
  go_wp2_with fail
  go_ret
  exact ⟨rfl, below_draws (by go_grown) _⟩

set_option maxHeartbeats 1000000 in
theorem eqRunS_same (x y : Nat) (n c d : Nat) (P : Nat → Int) (A B : Nat → Option Addr) (C D : Nat → Nat) (Z : Nat → List Int) (F G : Nat → Nat) (la ua lb ub : Nat) (w : World) (hm : n + took Z n ≤ 1048576) (hx : Own la ua w x n P A C Z F) (hy : Own lb ub w y n P B D Z G) :
    Calls Try.prog 83 #[.slice (some ⟨x, 0, none⟩) n c, .slice (some ⟨y, 0, none⟩) n d] w fun e w' => e = .returned (.bool true) ∧ Below w.heap.size w w' := by
  have hzl : ∀ i, i < n → (Z i).length ≤ 140737488351232 := fun i hi => by have := took_one Z i n hi; omega
  go_enter Try.func83, Try.ntmps83
  go_wp2_with fail
  go_loopw [5] (fun i wr => ∃ k : Nat, k ≤ n ∧ i = .int .i64 k ∧ Below w.heap.size w wr ∧ Own la ua wr x n P A C Z F ∧ Own lb ub wr y n P B D Z G) (fun i _ => n - (intOf i).toNat)
  case atStart => exact ⟨0, Nat.zero_le _, rfl, Below.refl _ _, hx, hy⟩
  case round =>
    obtain ⟨k, hk, rfl, g, hx, hy⟩ := hrel
    by_cases hlt : k < n
    · have hkn : (k : Int) < (n : Int) := by omega
      obtain ⟨p, hp⟩ : ∃ p, p = P k := ⟨_, rfl⟩
      obtain ⟨zs, hzs⟩ : ∃ zs, zs = Z k := ⟨_, rfl⟩
      have hzk := hzl k hlt
      have x0 := hx.c0 k hlt
      have x1 := hx.c1 k hlt
      have y0 := hy.c0 k hlt
      have y1 := hy.c1 k hlt
      have yx := hx.by' k hlt
      have yy := hy.by' k hlt
      rw [← hp] at x0 y0
      rw [← hzs] at x1 y1 yx yy hzk
      clear hp hzs
      have HS : Hid (∀ V, Below wr.heap.size wr V → V.cell? ⟨x, k * 2, none⟩ = some (.int .i64 p) ∧ V.cell? ⟨x, k * 2 + 1, none⟩ = some (.slice (A k) zs.length (C k)) ∧ V.cell? ⟨y, k * 2, none⟩ = some (.int .i64 p) ∧ V.cell? ⟨y, k * 2 + 1, none⟩ = some (.slice (B k) zs.length (D k))) := fun V hV =>
        ⟨(hV.cell (World.block_lt_of_cell? wr _ x0)).trans x0, (hV.cell (World.block_lt_of_cell? wr _ x1)).trans x1, (hV.cell (World.block_lt_of_cell? wr _ y0)).trans y0, (hV.cell (World.block_lt_of_cell? wr _ y1)).trans y1⟩
      go_wp2_with fail
      go_region_held (fun V => Below wr.heap.size wr V ∧ V.cell? ⟨x, k * 2, none⟩ = some (.int .i64 p) ∧ V.cell? ⟨x, k * 2 + 1, none⟩ = some (.slice (A k) zs.length (C k)) ∧ V.cell? ⟨y, k * 2, none⟩ = some (.int .i64 p) ∧ V.cell? ⟨y, k * 2 + 1, none⟩ = some (.slice (B k) zs.length (D k))) (first | exact eqKeepDE HS.out (by assumption) | exact eqKeepE HS.out (Below.refl _ _) (by go_grown)) (first | (go_at_call 135; refine (eqRun_same p (A k) (B k) _ _ _ _ zs zs.length (C k) (D k) _ rfl hzk (yx.below (by first | assumption | go_grown)) (yy.below (by first | assumption | go_grown))).mono ?_; rintro e w' ⟨rfl, hb⟩))
      rename_i hV
      have g : Below w.heap.size w w' := g.trans (hV.1.mono g.size)
      have hx := hx.below hV.1
      have hy := hy.below hV.1
      clear hV x0 x1 y0 y1 yx yy HS hb
      go_wp2_with fail
      go_roundw
      case rel => exact ⟨k + 1, by omega, by go_num, g, hx, hy⟩
      case measure => simp [intOf]; omega
    · go_wp2_with fail
      go_ret
      exact ⟨rfl, g⟩

end Go.Proofs.Yteebbaleejbodaa
