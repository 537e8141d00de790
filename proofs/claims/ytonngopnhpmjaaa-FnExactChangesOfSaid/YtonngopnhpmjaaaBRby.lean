/-
  The program's rowsByKey; the model's l6At.
-/
import Derived.Test.YtonngopnhpmjaaaBMks
import Derived.Shelf.Pu.Clone
import Derived.Ground.MpProg
import Derived.Test.YtonngopnhpmjaaaProg

namespace Go.Proofs.Ytonngopnhpmjaaa
open Go.RowKit Go.Maps
set_option linter.unusedVariables false

def rwK (r : Rw) : (Int × Int) × Value := ((r.t, r.k), rwA r)
theorem RowC.turn {w w' : World} {b o : Nat} {r : Rw} (h : RowC w b o r) {mb : Nat} (ht : w.mapTurned w' mb) (hne : b ≠ mb) : RowC w' b o r :=
  ⟨cell_turn ht h.c0, cell_turn ht h.c1, cell_turn ht h.c2, cell_turn ht h.c3⟩

/-- Where the row of that key is; none: -1. -/
def AtP (rs : List Rw) (t k : Int) (r : Int) : Prop := (r = -1 ∧ ∀ x ∈ rs, ¬ (x.t = t ∧ x.k = k)) ∨ ∃ (i : Nat) (x : Rw), r = i ∧ rs[i]? = some x ∧ x.t = t ∧ x.k = k

set_option maxHeartbeats 1000000 in
theorem l6At_any (a : Option Addr) (rs : List Rw) (n c : Nat) (t k : Int) (w : World) (hn : rs.length = n) (hm : n ≤ 100000) (hr : Rs rwE 4 w a rs) :
    Calls Try.prog 101 #[.slice a n c, .int .i64 t, .int .i64 k] w fun e w' => ∃ r : Int, e = .returned (.int .i64 r) ∧ AtP rs t k r ∧ w' = w := by
  have HN : Hid (rs.length = n) := hn
  have HR : Hid (Rs rwE 4 w a rs) := hr
  clear hn hr
  go_enter Try.func101, Try.ntmps101
  go_wp2_with fail
  go_loopw [7] (fun i wr => ∃ j : Nat, j ≤ n ∧ i = .int .i64 j ∧ Hid (∀ x ∈ rs.take j, ¬ (x.t = t ∧ x.k = k)) ∧ wr = w) (fun i _ => n - (intOf i).toNat)
  case atStart => exact ⟨0, Nat.zero_le _, rfl, by intro x hx; simp at hx, rfl⟩
  case round =>
    obtain ⟨j, hj, rfl, hf, rfl⟩ := hrel
    by_cases hlt : j < n
    · obtain ⟨x, hx⟩ := at_lt (rs := rs) (i := j) (by rw [HN.out]; exact hlt)
      obtain ⟨b, off, rfl, X'⟩ := HR.out.row hx
      have hjn : (j : Int) < (n : Int) := by omega
      have HX : Hid (rs[j]? = some x) := hx
      have HF : Hid (¬ (x.t = t ∧ x.k = k) → ∀ y ∈ rs.take (j + 1), ¬ (y.t = t ∧ y.k = k)) := fun hne y hy => by
        rw [take_snoc hx] at hy
        rcases List.mem_append.1 hy with h | h
        · exact hf.out y h
        · simp at h; subst h; exact hne
      clear hx hf
      obtain ⟨xt, xk, xv, xs0⟩ := x
      obtain ⟨x0, x1, x2, x3⟩ := X'
      dsimp only at x0 x1 x2 x3
      by_cases h1 : xt = t
      · subst h1
        by_cases h2 : xk = k
        · subst h2
          go_wp2_with fail
          go_ret
          exact ⟨j, rfl, .inr ⟨j, _, rfl, HX.out, rfl, rfl⟩, rfl⟩
        · have HF2 : Hid (∀ y ∈ rs.take (j + 1), ¬ (y.t = xt ∧ y.k = k)) := HF.out (fun h => h2 h.2)
          have d2 : (xk == k) = false := by simpa using h2
          go_wp2_with fail
          go_roundw
          case rel => exact ⟨j + 1, by omega, by go_num, HF2, by simp⟩
          case measure => simp [intOf]; omega
      · have HF2 : Hid (∀ y ∈ rs.take (j + 1), ¬ (y.t = t ∧ y.k = k)) := HF.out (fun h => h1 h.1)
        have d1 : (xt == t) = false := by simpa using h1
        go_wp2_with fail
        go_roundw
        case rel => exact ⟨j + 1, by omega, by go_num, HF2, by simp⟩
        case measure => simp [intOf]; omega
    · have HF2 : Hid (∀ x ∈ rs, ¬ (x.t = t ∧ x.k = k)) := by
        have := hf.out
        rw [List.take_of_length_le (by rw [HN.out]; omega)] at this
        exact this
      have hjn : ¬ (j : Int) < (n : Int) := by omega
      clear hf
      go_wp2_with fail
      go_ret
      exact ⟨-1, rfl, .inl ⟨rfl, HF2.out⟩, rfl⟩

end Go.Proofs.Ytonngopnhpmjaaa

/-
  DERIVED: THE SHELF's CONTRACTS AT THIS DUMP, IN PLAIN WORDS (tools/lay-plain.mjs out of 'TryShg9.lean', which tools/lay-shelf.mjs wrote): THE SAME DECLARATIONS UNDER THE SAME NAMES: 'import', 'namespace', 'open', 'def', 'theorem' AND NOTHING ELSE: no command of the shelf's: FOR A HAND-IN. Each laying: the table of numbers ('.._ren') and one theorem, a field a fact of the dump's own or the kernel's comparison; each contract: ONE APPLICATION.
-/
namespace Go.Proofs
open Go.Shelf
def Try.cloneL_ren : Go.Shelf.Ren := ⟨fun | 25 => 168 | n => n, fun | 9 => 9 | 3 => 3 | 4 => 4 | 37 => 106 | 0 => 0 | 47 => 261 | 5 => 5 | n => n, fun | n => n⟩
theorem Try.cloneL : Go.Proofs.LaysPu.n25 Try.prog Try.cloneL_ren := {
  mixed := by kernel_rfl
  f25 := Try.func168.trans (congrArg some (by kernel_rfl))
  t0 := Try.underlying0
  a0 := Try.isAgg0
  z0 := Try.sizeOf0
  v0 := Try.zeroValue0
  i0 := by kernel_rfl
  t3 := Try.underlying3
  a3 := Try.isAgg3
  z3 := Try.sizeOf3
  v3 := Try.zeroValue3
  i3 := by kernel_rfl
  t4 := Try.underlying4
  a4 := Try.isAgg4
  z4 := Try.sizeOf4
  v4 := Try.zeroValue4
  i4 := by kernel_rfl
  t5 := Try.underlying5
  a5 := Try.isAgg5
  z5 := Try.sizeOf5
  v5 := Try.zeroValue5
  i5 := by kernel_rfl
  t9 := Try.underlying9
  a9 := Try.isAgg9
  z9 := Try.sizeOf9
  v9 := Try.zeroValue9
  i9 := by kernel_rfl
  t37 := Try.underlying106
  a37 := Try.isAgg106
  z37 := Try.sizeOf106
  v37 := Try.zeroValue106
  i37 := by kernel_rfl
  t47 := Try.underlying261
  a47 := Try.isAgg261
  z47 := Try.sizeOf261
  v47 := Try.zeroValue261
  i47 := by kernel_rfl }
end Go.Proofs

/-
  A row with a text of its own: strings.Clone, ownRow. A change: its ten cells.
-/
namespace Go.Proofs.Ytonngopnhpmjaaa
open Go.RowKit
set_option linter.unusedVariables false

set_option maxHeartbeats 400000 in
theorem clone_any (s : ByteArray) (w : World) (hs : s.size ≤ 1048576) : Calls Try.prog 146 #[.string s] w fun e w' => e = .returned (.string s) ∧ Below w.heap.size w w' := by
  have hcon := AnyPu.stringslite_Clone Try.cloneL s w (by omega)
  change Calls Try.prog 168 _ _ _ at hcon
  go_enter Try.func146, Try.ntmps146
  go_wp2_with (go_at_call 168; refine hcon.mono ?_; rintro e w' ⟨rfl, g⟩)
  go_ret
  exact ⟨rfl, g⟩

set_option maxHeartbeats 1000000 in
theorem ownRow_any (t k v : Int) (s : ByteArray) (w : World) (hs : s.size ≤ 1048576) : Calls Try.prog 105 #[.agg #[.int .i64 t, .int .i64 k, .int .i64 v, .string s]] w fun e w' => e = .returned (.agg #[.int .i64 t, .int .i64 k, .int .i64 v, .string s]) ∧ Below w.heap.size w w' := by
  have hcon := fun W => clone_any s W hs
  have HC : Hid (∀ W, Calls Try.prog 146 #[.string s] W fun e w' => e = .returned (.string s) ∧ Below W.heap.size W w') := hcon
  clear hcon
  go_enter Try.func105, Try.ntmps105
  go_upto_region 1 with (fail)
  generalize hY : World.alloc _ _ = Y
  have gY : Below w.heap.size w Y := by rw [← hY]; go_grown
  have C : RowC Y w.heap.size 0 ⟨t, k, v, s⟩ := by rw [← hY]; exact ⟨by simp [go_sem], by simp [go_sem], by simp [go_sem], by simp [go_sem]⟩
  have f3 : Y.frozen? ⟨w.heap.size, 3, none⟩ = false := by rw [← hY]; simp [go_sem]
  have Z : RowC Y (w.heap.size + 1) 0 ⟨0, 0, 0, ⟨#[]⟩⟩ := by rw [← hY]; exact ⟨by simp [go_sem], by simp [go_sem], by simp [go_sem], by simp [go_sem]⟩
  have z0 : Y.frozen? ⟨w.heap.size + 1, 0, none⟩ = false := by rw [← hY]; simp [go_sem]
  have z1 : Y.frozen? ⟨w.heap.size + 1, 1, none⟩ = false := by rw [← hY]; simp [go_sem]
  have z2 : Y.frozen? ⟨w.heap.size + 1, 2, none⟩ = false := by rw [← hY]; simp [go_sem]
  have z3 : Y.frozen? ⟨w.heap.size + 1, 3, none⟩ = false := by rw [← hY]; simp [go_sem]
  clear hY
  have hlC := C.lt
  have hlZ := Z.lt
  have hne : w.heap.size + 1 ≠ w.heap.size := by omega
  have hge : w.heap.size ≤ w.heap.size + 1 := by omega
  obtain ⟨b1, hb1⟩ : ∃ b1, b1 = w.heap.size + 1 := ⟨_, rfl⟩
  rw [← hb1] at Z z0 z1 z2 z3 hlZ hne hge ⊢
  have gsz := Nat.le_refl w.heap.size
  have hb0 : w.heap.size ≤ w.heap.size := Nat.le_refl _
  clear hb1
  obtain ⟨b0, hb0'⟩ : ∃ b0, b0 = w.heap.size := ⟨_, rfl⟩
  have hB0 : w.heap.size ≤ b0 := by omega
  have hB1 : w.heap.size ≤ b1 := by omega
  have hnn : b1 ≠ b0 := by omega
  rw [← hb0'] at C f3 hlC ⊢
  clear hb0' hne hge gsz hb0
  obtain ⟨y0, y1, y2, y3⟩ := C
  dsimp only at y0 y1 y2 y3
  go_wp2_with fail
  refine (HC.out _).mono ?_
  rintro e w' ⟨rfl, g⟩
  have C : RowC w' b0 0 ⟨t, k, v, s⟩ := RowC.below (w := Y) ⟨y0, y1, y2, y3⟩ g hlC
  have Z := Z.below g hlZ
  have f3 := (g.frozen (p := ⟨b0, 3, none⟩) hlC).trans f3
  have z0 := (g.frozen (p := ⟨b1, 0, none⟩) hlZ).trans z0
  have z1 := (g.frozen (p := ⟨b1, 1, none⟩) hlZ).trans z1
  have z2 := (g.frozen (p := ⟨b1, 2, none⟩) hlZ).trans z2
  have z3 := (g.frozen (p := ⟨b1, 3, none⟩) hlZ).trans z3
  have gg := gY.trans (g.mono gY.size)
  clear y0 y1 y2 y3 g gY hlC hlZ
  obtain ⟨y0, y1, y2, y3⟩ := C
  obtain ⟨x0, x1, x2, x3⟩ := Z
  dsimp only at y0 y1 y2 y3 x0 x1 x2 x3
  go_wp2_with fail
  refine bodyPost_ret (v := .agg #[.int .i64 t, .int .i64 k, .int .i64 v, .string s]) (by simp [results, Try.results105, go_sem, *]) rfl ?_
  exact ⟨rfl, by go_grown⟩

end Go.Proofs.Ytonngopnhpmjaaa

/-
  risingKeys of the maps of rows and of changes.
-/
namespace Go.Proofs.Ytonngopnhpmjaaa
open Go.RowKit Go.Sort Go.Shelf
set_option linter.unusedVariables false

set_option maxHeartbeats 400000 in
theorem keysC_box (b : Nat) (w : World) : Calls Try.prog 148 #[.map (some b)] w fun e w' => e = .returned (.func (.func 171) #[] #[.pointer (some ⟨w.heap.size, 0, none⟩)]) ∧ Below w.heap.size w w' ∧ w'.cell? ⟨w.heap.size, 0, none⟩ = some (.map (some b)) := by
  go_enter Try.func148, Try.ntmps148
  go_wp2_with fail
  go_ret
  exact ⟨rfl, by go_grown, by simp [go_sem]⟩

set_option maxHeartbeats 1000000 in
theorem risingC_any (b sz : Nat) (l : List ((Int × Int) × Value)) (w : World) (h : MapK 147 w b l sz) (hl : l.length ≤ 100000) :
    Calls Try.prog 107 #[.map (some b)] w fun e w' => RkPost l w e w' := by
  obtain ⟨D, ho, hs, _, hh⟩ := h.1.has
  have hsz := h.2.1
  have hbl := ho.lt
  have hmem : ∀ x : K2, Maps.has D (k2L x) = true ↔ k2P x ∈ l.map (·.1) := fun x => by
    rw [show k2L x = kl x.x x.y from rfl, hh x.x x.y x.h]
    exact kvF_some l x.x x.y
  clear h hh
  go_enter Try.func107, Try.ntmps107
  go_wp2_with fail
  refine (keysC_box b _).mono ?_
  rintro e w1 ⟨rfl, g1, hc⟩
  have ho1 : w1.ownsMap Try.prog 147 hR b sz D := by
    obtain ⟨es, clock, hb, Ft, hs', hD⟩ := ho
    exact ⟨es, clock, (g1.block b hbl).trans hb, Ft, hs', hD⟩
  have hcl := World.block_lt_of_cell? w1 _ hc
  have hcon := sorted_any 171 #[.pointer (some ⟨w.heap.size, 0, none⟩)] (fun ss => ss.Nodup ∧ ∀ x, x ∈ ss ↔ Maps.has D (k2L x) = true) (Maps.size D) w1 (by omega)
    (enters_of Try.func171 (by kernel_rfl) rfl)
    (fun W hW => keysC_stops Fence.wide 9 trivial rfl (by omega) w.heap.size b sz D W (Nat.lt_of_lt_of_le hcl hW.size) ((hW.cell hcl).trans hc) (by
      obtain ⟨es, clock, hb, Ft, hs', hD⟩ := ho1
      exact ⟨es, clock, (hW.block b (by have := g1.size; omega)).trans hb, Ft, hs', hD⟩))
    (fun ss hss => by
      have h1 := nodup_le (ss.map k2P) (l.map (·.1)) (k2P_nodup hss.1) (fun q hq => by
        obtain ⟨x, hx, rfl⟩ := List.mem_map.1 hq
        exact (hmem x).1 ((hss.2 x).1 hx))
      simp only [List.length_map] at h1
      omega)
  go_wp2_with (go_at_call 147; refine hcon.mono ?_)
  rintro e w2 ⟨a, ys, c, ss, rfl, hss, hp, hr, g2, hi2⟩
  go_wp2_with fail
  go_ret
  have hs1 := g1.size
  refine ⟨a, ys, c, rfl, g1.trans (g2.mono hs1), hi2.mono hs1 (Nat.le_refl _), hr, hp.nodup_iff.2 hss.1, fun x => ?_⟩
  rw [hp.mem_iff, hss.2, hmem]

end Go.Proofs.Ytonngopnhpmjaaa
