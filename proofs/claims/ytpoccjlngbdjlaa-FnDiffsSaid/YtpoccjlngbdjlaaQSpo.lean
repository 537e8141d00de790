/-
  The contract of what spansOf hands back: it tells the spans of runs, one behind the other.
-/
import Derived.Test.YtpoccjlngbdjlaaQRin

namespace Go.Proofs.Ytpoccjlngbdjlaa
open Go.RowKit Go.Shelf
set_option linter.unusedVariables false

/-- The spans of n runs. -/
def spOf (n : Nat) (P : Nat → Int) (Z : Nat → List Int) (h : ∀ i, i < n → 0 ≤ P i ∧ 1 ≤ (Z i).length ∧ P i + (Z i).length ≤ 64) : List Sp :=
  List.ofFn fun i : Fin n => ⟨((P i).toNat, (Z i).length), by have := h i i.2; constructor <;> simp only <;> omega⟩

section
variable {n : Nat} {P : Nat → Int} {Z : Nat → List Int} {h : ∀ i, i < n → 0 ≤ P i ∧ 1 ≤ (Z i).length ∧ P i + (Z i).length ≤ 64}
theorem spOf_length : (spOf n P Z h).length = n := by simp [spOf]
theorem spOf_get (i : Nat) (hi : i < n) : (spOf n P Z h)[i]? = some ⟨((P i).toNat, (Z i).length), by have := h i hi; constructor <;> simp only <;> omega⟩ := by
  simp [spOf, hi]
theorem spOf_P (i : Nat) (hi : i < n) : spP (spOf n P Z h) i = P i := by
  have := h i hi
  simp only [spP, List.getD, List.getElem?_map, spOf_get i hi, Option.map_some, Option.getD_some]
  omega
theorem spOf_Z (zs : List Int) (i : Nat) (hi : i < n) : spZ zs (spOf n P Z h) i = (zs.drop (P i).toNat).take (Z i).length := by
  simp only [spZ, List.getD, List.getElem?_map, spOf_get i hi, Option.map_some, Option.getD_some]
end

set_option maxHeartbeats 400000 in
theorem spansOf_any (a : Option Addr) (n c : Nat) (w : World) :
    Calls Try.prog 40 #[.slice a n c] w fun e w' => e = .returned (.func (.func 57) #[] #[.pointer (some ⟨w.heap.size, 0, none⟩)]) ∧ w' = w.alloc (.cells #[.slice a n c] 26) := by
  go_enter Try.func40, Try.ntmps40
  go_wp2_with fail
  go_ret
  exact ⟨rfl, rfl⟩

set_option maxRecDepth 100000 in
set_option maxHeartbeats 4000000 in
theorem spans1_in (n9 : Nat) (l bx n₀ : Nat) (a : Option Addr) (n c : Nat) (P : Nat → Int) (A : Nat → Option Addr) (C : Nat → Nat) (Z : Nat → List Int) (h : ∀ i, i < n → 0 ≤ P i ∧ 1 ≤ (Z i).length ∧ P i + (Z i).length ≤ 64) (hn64 : n ≤ 64)
    (J Jx : List Sp → World → Prop) (W : World) (hJ : AbidesFrom W.heap.size J)
    (hY : ∀ pre x W1, J pre W1 → pre.length < n → YieldAt Fence.wide (n9 - 1) Try.prog l (spE x) W1 fun e W' => (e = .returned (.bool true) ∧ J (pre ++ [x]) W' ∧ Below n₀ W1 W') ∨ (e = .returned (.bool false) ∧ Jx (pre ++ [x]) W'))
    (hn₀ : n₀ ≤ W.heap.size) (hbx : bx < n₀) (hc : W.cell? ⟨bx, 0, none⟩ = some (.slice a n c)) (hR : ∀ V, Below n₀ W V → RunsRead V a n P A C Z) (h0 : J [] W) :
    CallsIn Fence.wide n9 Try.prog 57 #[.func (.yield l) #[] #[], .pointer (some ⟨bx, 0, none⟩)] W fun e W' => (∃ v, e = .returned v) ∧ ((∃ ys, ys = spOf n P Z h ∧ J ys W') ∨ (∃ pre, pre <+: spOf n P Z h ∧ Jx pre W')) := by
  have HR : Hid (∀ V, Below n₀ W V → RunsRead V a n P A C Z) := hR
  have HH : Hid (∀ i, i < n → 0 ≤ P i ∧ 1 ≤ (Z i).length ∧ P i + (Z i).length ≤ 64) := h
  obtain ⟨xs, hxs⟩ : ∃ xs, xs = spOf n P Z h := ⟨_, rfl⟩
  have hxl : xs.length = n := by rw [hxs]; exact spOf_length
  have HX : Hid (∀ i, (hi : i < n) → ∃ x : Sp, xs.take (i + 1) = xs.take i ++ [x] ∧ x.1.1 = (P i).toNat ∧ x.1.2 = (Z i).length) := fun i hi => by
    have hg := spOf_get (h := h) i hi
    rw [← hxs] at hg
    exact ⟨_, by rw [List.take_add_one, hg]; rfl, rfl, rfl⟩
  have HXL : Hid (xs.length = n) := hxl
  rw [← hxs]
  clear hR h hxs hxl
  refine callsIn_of_wp Try.func57 rfl trivial ?_ rfl
  simp only [Try.ntmps57, List.size_toArray, List.length_cons, List.length_nil, Nat.reduceAdd, Nat.reduceSub, Array.replicate_succ, Array.replicate_zero, List.push_toArray, List.append_toArray, List.nil_append, List.cons_append]
  gi_wp2
  gi_loopw [7] (fun i wr => ∃ k : Nat, k ≤ n ∧ i = .int .i64 k ∧ J (xs.take k) wr ∧ Below n₀ W wr) (fun i _ => n - (intOf i).toNat)
  case atStart => exact ⟨0, Nat.zero_le _, rfl, by simpa using h0, Below.refl _ _⟩
  case round =>
    obtain ⟨k, hk, rfl, hJk, g⟩ := hrel
    by_cases hlt : k < n
    · obtain ⟨rb, off, rfl⟩ : ∃ b off, a = some ⟨b, off, none⟩ := by
        rcases HR.out W (Below.refl _ _) with h1 | ⟨b, off, hb, _⟩
        · omega
        · exact ⟨b, off, hb⟩
      obtain ⟨e0, e1, _⟩ := (HR.out wr g).at_ k hlt
      have hkn : (k : Int) < (n : Int) := by omega
      obtain ⟨q0, q1, q2⟩ := HH.out k hlt
      obtain ⟨x, hx1, hx2, hx3⟩ := HX.out k hlt
      obtain ⟨p, hpv⟩ : ∃ p : Nat, P k = (p : Int) := ⟨(P k).toNat, by omega⟩
      obtain ⟨m, hmv⟩ : ∃ m, m = (Z k).length := ⟨_, rfl⟩
      rw [hpv] at e0 q2 hx2
      rw [← hmv] at e1 q1 q2 hx3
      rw [Int.toNat_natCast] at hx2
      have hE : spE x = #[.agg #[.int .u64 (p : Nat), .int .u64 (m : Nat)]] := by unfold spE; rw [hx2, hx3]
      have hJ' : J (xs.take k) (wr.alloc (.cells #[.int .i64 (p : Int), .slice (A k) m (C k)] 35)) := hJ _ _ _ none hJk (World.grownBy_alloc wr _ none) (fun r e => by cases e)
      obtain ⟨fn, tmps, assign, body, hy, hR'⟩ := hY (xs.take k) x _ hJ' (by rw [List.length_take, HXL.out]; omega)
      rw [hE] at hy
      have gA : Below n₀ W (wr.alloc (.cells #[.int .i64 (p : Int), .slice (A k) m (C k)] 35)) := g.alloc (by have := g.size; omega) _
      have HX1 : Hid (xs.take (k + 1) = xs.take k ++ [x]) := hx1
      have i1 : ((p : Int) % 18446744073709551616) = p := by omega
      clear hE hx1 hx2 hx3 hpv hmv hJk hY
      gi_wp2
      refine ⟨fun hd => (by cases hd), ?_⟩
      refine hR'.mono ?_
      rintro e W3 (⟨rfl, hJ3, hk3⟩ | ⟨rfl, hJx3⟩)
      · have g3 := gA.trans hk3
        gi_wp2
        go_roundw
        case rel => exact ⟨k + 1, by omega, by go_num, by rw [HX1.out]; exact hJ3, g3⟩
        case measure => simp [intOf]; omega
      · gi_wp2
        refine bodyPost_ret (results_none rfl _ _ _) rfl ?_
        exact ⟨⟨_, rfl⟩, .inr ⟨xs.take k ++ [x], by rw [← HX1.out]; exact List.take_prefix _ _, hJx3⟩⟩
    · have e : k = n := by omega
      subst e
      gi_wp2
      go_end0
      exact ⟨⟨_, rfl⟩, .inl ⟨xs, rfl, by have h1 := hJk; rw [List.take_of_length_le (by rw [HXL.out]; exact Nat.le_refl _)] at h1; exact h1⟩⟩

/-- What spansOf hands back tells the spans of the runs. -/
theorem spans_stops (bx : Nat) (a : Option Addr) (n c : Nat) (P : Nat → Int) (A : Nat → Option Addr) (C : Nat → Nat) (Z : Nat → List Int) (h : ∀ i, i < n → 0 ≤ P i ∧ 1 ≤ (Z i).length ∧ P i + (Z i).length ≤ 64) (hn64 : n ≤ 64)
    (n₀ : Nat) (w : World) (hn₀ : n₀ ≤ w.heap.size) (hbx : bx < n₀) (hc : w.cell? ⟨bx, 0, none⟩ = some (.slice a n c)) (hR : ∀ V, Below n₀ w V → RunsRead V a n P A C Z) :
    SeqStopsK Fence.wide 9 Try.prog 57 #[.pointer (some ⟨bx, 0, none⟩)] spE (Below n₀) (fun ys => ys = spOf n P Z h) (fun pre => pre <+: spOf n P Z h) (spOf n P Z h).length w := fun l J Jx W hW hJ _ hY h0 =>
  spans1_in 9 l bx n₀ a n c P A C Z h hn64 J Jx W hJ (by rw [spOf_length] at hY; exact hY) (Nat.le_trans hn₀ hW.size) hbx ((hW.cell (p := ⟨bx, 0, none⟩) (Nat.lt_of_lt_of_le hbx hn₀)).trans hc) (fun V hV => hR V ((hW.mono hn₀).trans hV)) h0

end Go.Proofs.Ytpoccjlngbdjlaa
