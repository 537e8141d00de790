/-
  risingKeys of the maps of rows and of changes.
-/
import Derived.Test.YtmbllmhpnopbdaaFFSrt
import Derived.Test.YtmbllmhpnopbdaaFFShg
import Derived.Test.YtmbllmhpnopbdaaFFKyi

namespace Go.Proofs.Ytmbllmhpnopbdaa
open Go.RowKit Go.Sort Go.Shelf
set_option linter.unusedVariables false

set_option maxHeartbeats 400000 in
theorem keysR_box (b : Nat) (w : World) : Calls Try.prog 48 #[.map (some b)] w fun e w' => e = .returned (.func (.func 60) #[] #[.pointer (some ⟨w.heap.size, 0, none⟩)]) ∧ Below w.heap.size w w' ∧ w'.cell? ⟨w.heap.size, 0, none⟩ = some (.map (some b)) := by
  go_enter Try.func48, Try.ntmps48
  go_wp2_with fail
  go_ret
  exact ⟨rfl, by go_grown, by simp [go_sem]⟩

set_option maxHeartbeats 1000000 in
theorem risingR_any (b sz : Nat) (l : List ((Int × Int) × Value)) (w : World) (h : MapK 65 w b l sz) (hl : l.length ≤ 100000) :
    Calls Try.prog 31 #[.map (some b)] w fun e w' => RkPost l w e w' := by
  obtain ⟨D, ho, hs, _, hh⟩ := h.1.has
  have hsz := h.2.1
  have hbl := ho.lt
  have hmem : ∀ x : K3, Maps.has D (k2L x) = true ↔ k2P x ∈ l.map (·.1) := fun x => by
    rw [show k2L x = kl x.x x.y from rfl, hh x.x x.y x.h]
    exact kvF_some l x.x x.y
  clear h hh
  go_enter Try.func31, Try.ntmps31
  go_wp2_with fail
  refine (keysR_box b _).mono ?_
  rintro e w1 ⟨rfl, g1, hc⟩
  have ho1 : w1.ownsMap Try.prog (65) hR b sz D := by
    obtain ⟨es, clock, hb, Ft, hs', hD⟩ := ho
    exact ⟨es, clock, (g1.block b hbl).trans hb, Ft, hs', hD⟩
  have hcl := World.block_lt_of_cell? w1 _ hc
  have hcon := sorted_any 60 #[.pointer (some ⟨w.heap.size, 0, none⟩)] (fun ss => ss.Nodup ∧ ∀ x, x ∈ ss ↔ Maps.has D (k2L x) = true) (Maps.size D) w1 (by omega)
    (enters_of Try.func60 (by kernel_rfl) rfl)
    (fun W hW => keysR_stops Fence.wide 9 trivial rfl (by omega) w.heap.size b sz D W (Nat.lt_of_lt_of_le hcl hW.size) ((hW.cell hcl).trans hc) (by
      obtain ⟨es, clock, hb, Ft, hs', hD⟩ := ho1
      exact ⟨es, clock, (hW.block b (by have := g1.size; omega)).trans hb, Ft, hs', hD⟩))
    (fun ss hss => by
      have h1 := nodup_le (ss.map k2P) (l.map (·.1)) (k2P_nodup hss.1) (fun q hq => by
        obtain ⟨x, hx, rfl⟩ := List.mem_map.1 hq
        exact (hmem x).1 ((hss.2 x).1 hx))
      simp only [List.length_map] at h1
      omega)
  go_wp2_with (go_at_call 47; refine hcon.mono ?_)
  rintro e w2 ⟨a, ys, c, ss, rfl, hss, hp, hr, g2, hi2⟩
  go_wp2_with fail
  go_ret
  have hs1 := g1.size
  refine ⟨a, ys, c, rfl, g1.trans (g2.mono hs1), hi2.mono hs1 (Nat.le_refl _), hr, hp.nodup_iff.2 hss.1, fun x => ?_⟩
  rw [hp.mem_iff, hss.2, hmem]

end Go.Proofs.Ytmbllmhpnopbdaa

/-
  Picked.
-/
namespace Go.Proofs.Ytmbllmhpnopbdaa
open Go.RowKit Go.Maps Go.Shelf Go.Sort
set_option linter.unusedVariables false

set_option maxRecDepth 100000 in
set_option maxHeartbeats 1000000 in
theorem keys1SC_in (F : Fence) (n : Nat) (h10 : F.fn 63) (hro : F.round = none) (hn : 1 ≤ n) (l Bm b nn : Nat) (D0 : DataW Value) (J Jx : List K3 → World → Prop)
    (hY : ∀ pre x W, J pre W → pre.length < Maps.size D0 → YieldAt F (n - 1) Try.prog l #[k2E x] W fun e W' =>
      (e = .returned (.bool true) ∧ J (pre ++ [x]) W' ∧ KeepsWalks W W') ∨ (e = .returned (.bool false) ∧ Jx (pre ++ [x]) W'))
    (W : World) (hJ : AbidesFrom W.heap.size J) (hm : W.cell? ⟨Bm, 0, none⟩ = some (.map (some b))) (hown : W.ownsMap Try.prog (65) hR b nn D0) (h0 : J [] W) :
    CallsIn F n Try.prog 63 #[.func (.yield l) #[] #[], .pointer (some ⟨Bm, 0, none⟩)] W fun e W' => (∃ v, e = .returned v) ∧
      ((∃ ss : List K3, (ss.Nodup ∧ ∀ x, x ∈ ss ↔ Maps.has D0 (k2L x) = true) ∧ J ss W') ∨ (∃ pre : List K3, True ∧ Jx pre W')) := by
  refine callsIn_of_wp Try.func63 rfl h10 ?_ hro
  simp only [Try.ntmps63, List.size_toArray, List.length_cons, List.length_nil, Nat.reduceAdd, Nat.reduceSub, Array.replicate_succ, Array.replicate_zero, List.push_toArray, List.append_toArray, List.nil_append, List.cons_append]
  gi_wp2_with (first
    | (gi_at_range; refine wpListIn_range_own _ rfl _ 77 rfl 65 28 keyT73.law Try.underlying77 _ b nn _ rfl hown ?_; intro w0 hrg0 hg0 hs0)
    | gi_in)
  go_frame
  gi_loopw [3] (fun _ wr => ∃ (left : Lit → Bool) (cnt : Nat) (ss : List K3), wr.ranges Try.prog (65) hR b W.heap.size nn D0 left cnt ∧ ss.length + cnt ≤ Maps.size D0 ∧ ColK D0 left ss ∧ J ss wr ∧ W.heap.size < wr.heap.size)
    (fun _ wr => wr.rangeLeft b W.heap.size)
  case atStart =>
    exact ⟨_, _, [], hrg0, by simp, ColK.start D0, hJ [] W w0 none h0 hg0 (fun r e => by cases e), by omega⟩
  case round =>
    obtain ⟨left, cnt, ss, hrg, hcs, hC, hJs, hws⟩ := hrel
    gi_wp2_with (first
      | (gi_at_next; refine wpListIn_next_ranges _ rfl _ rfl 65 keyT73.law hR k2E id (fun key kl hk => k2_inv hk) (fun v _ _ => ⟨v, rfl⟩) b W.heap.size nn _ _ _ rfl hrg ?_ ?_)
      | gi_in)
    · intro hc0 hl0
      gi_wp2
      go_end0
      exact ⟨⟨_, rfl⟩, .inl ⟨ss, ⟨hC.1, fun x => by rw [hC.2 x, hl0]; simp⟩, hJs⟩⟩
    · intro x c kl' yd yp w2 cnt2 hkey hlk hv hat hrg2 hlt hg2 hs2 hen
      obtain rfl : kl' = k2L x := by rw [k2_rd] at hkey; simpa using hkey.symm
      have hJ2 : J ss w2 := hJ ss wr w2 (some W.heap.size) hJs hg2 (fun r e => by cases e; exact ⟨Nat.le_refl _, hrg.iter_walk⟩)
      have hg3 : w2.grownBy (w2.alloc (.cells #[.int .i64 x.x, .int .i64 x.y] 65)) none := World.grownBy_alloc w2 _ none
      have hJ3 : J ss (w2.alloc (.cells #[.int .i64 x.x, .int .i64 x.y] 65)) := hJ ss w2 _ none hJ2 hg3 (fun r e => by cases e)
      have hrg3 := hrg2.alloc (.cells #[.int .i64 x.x, .int .i64 x.y] 65)
      obtain ⟨fn, tmps, assign, body, hy, hR'⟩ := hY ss x _ hJ3 (by omega)
      simp only [k2E] at hen hy hR'
      have hC2 := hC.step hlk hat
      have hsz3 : W.heap.size < (w2.alloc (.cells #[.int .i64 x.x, .int .i64 x.y] 65)).heap.size := by simp; omega
      clear hs2
      gi_wp2
      refine hR'.mono ?_
      rintro e W3 (⟨rfl, hJ3, hk3⟩ | ⟨rfl, hJx3⟩)
      · gi_wp2
        have hrg4 := hrg3.of_walks hk3
        have hsz4 := Nat.lt_of_lt_of_le hsz3 hk3.size
        go_roundw
        case rel => exact ⟨_, cnt2, ss ++ [x], hrg4, by simp; omega, hC2, hJ3, hsz4⟩
        case measure => rw [hrg4.left_eq, hrg.left_eq]; exact hlt
      · gi_wp2
        refine bodyPost_ret (results_none rfl _ _ _) rfl ?_
        exact ⟨⟨_, rfl⟩, .inr ⟨ss ++ [x], trivial, hJx3⟩⟩

theorem keysC_stops (F : Fence) (n : Nat) (h10 : F.fn 63) (hro : F.round = none) (hn : 1 ≤ n) (Bm b nn : Nat) (D0 : DataW Value) (w : World) (hBm : Bm < w.heap.size)
    (hm : w.cell? ⟨Bm, 0, none⟩ = some (.map (some b))) (hown : w.ownsMap Try.prog (65) hR b nn D0) :
    SeqStops F n Try.prog 63 #[.pointer (some ⟨Bm, 0, none⟩)] k2E (fun ss => ss.Nodup ∧ ∀ x, x ∈ ss ↔ Maps.has D0 (k2L x) = true) (fun _ => True) (Maps.size D0) w := fun l J Jx W hW hJ _ hY h0 => by
  have hown' : W.ownsMap Try.prog (65) hR b nn D0 := by
    have hbl := hown.lt
    obtain ⟨es, clock, hb, Ft, hs, hD⟩ := hown
    exact ⟨es, clock, (hW.block b hbl).trans hb, Ft, hs, hD⟩
  exact keys1SC_in F n h10 hro hn l Bm b nn D0 J Jx hY W hJ ((hW.cell (p := ⟨Bm, 0, none⟩) hBm).trans hm) hown' h0

end Go.Proofs.Ytmbllmhpnopbdaa
