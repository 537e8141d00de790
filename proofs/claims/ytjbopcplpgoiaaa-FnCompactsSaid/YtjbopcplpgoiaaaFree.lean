/-
  The contracts of free, firstEmpty and endsEmpty.
-/
import Derived.Test.YtjbopcplpgoiaaaSp
namespace Go.Proofs.Ytjbopcplpgoiaaa
open Go.RowKit

/-- A whole page is read. -/
theorem wpList_loadPg {ops : Array Oper} {rest : List Oper} {o : Oper} {a : Act} {w : World} {Q : Exit → Act → World → Prop} (hgd : o.guard = none) (x : Operand) (ho : o.op = .load 57 x)
    (g : Nat) (hx : a.eval x = .pointer (some ⟨g, 0, none⟩)) (zs : List Int) (hA : Arr w g zs)
    (h : wpList Try.prog ops Q rest (a.put o.dst (.agg (pgC zs))) w) : wpList Try.prog ops Q (o :: rest) a w :=
  wpList_load_row hgd 57 x ho g hx 57 (pgC zs) (0, 0) _ hA.row Try.underlying57 rfl (by rw [pgC_size, hA.len]; exact info57) h

/-- How long the cells of the first k slots are together. -/
def lens (zs : List Int) : Nat → Nat
  | 0 => 0
  | k + 1 => lens zs k + nb zs (3 + 2 * k)

theorem lens_le (zs : List Int) : ∀ k m, lens zs k ≤ lens zs (k + m)
  | _, 0 => Nat.le_refl _
  | k, m + 1 => by rw [← Nat.add_assoc, lens]; have := lens_le zs k m; omega

set_option maxHeartbeats 1000000 in
theorem free_any (zs : List Int) (w : World) (h : IsPg zs) (hc : nb zs 0 ≤ 16) (hf : 2 + 2 * nb zs 0 + lens zs (nb zs 0) ≤ 64) :
    Calls Try.prog 51 #[.agg (pgC zs)] w fun e w' => e = .returned (.int .u64 (62 - 2 * nb zs 0 - lens zs (nb zs 0) : Nat)) ∧ Below w.heap.size w w' := by
  obtain ⟨X, hX, hA, g⟩ := boxed zs w h
  obtain ⟨n, hn⟩ : ∃ n, n = nb zs 0 := ⟨_, rfl⟩
  have HN : Hid (n = nb zs 0) := hn
  rw [← hn] at hc hf ⊢
  clear hn
  go_enter Try.func51, Try.ntmps51
  go_wp2_with (refine wpList_loadPg rfl _ rfl _ rfl zs (by assumption) ?_)
  refine (slots_any zs _ h).mono ?_
  rintro e w1 ⟨rfl, g1⟩
  rw [← HN.out]
  have hA := hA.grown g1
  have g : Below w.heap.size w w1 := g.trans (g1.mono g.size)
  clear g1 hX
  go_wp2_with (refine wpList_loadPg rfl _ rfl _ rfl zs (by assumption) ?_)
  refine (dirEnd_any n _ (by omega)).mono ?_
  rintro e w2 ⟨rfl, rfl⟩
  go_wp2_with (refine wpList_loadPg rfl _ rfl _ rfl zs (by assumption) ?_)
  refine (slots_any zs _ h).mono ?_
  rintro e w3 ⟨rfl, g3⟩
  rw [← HN.out]
  have hA := hA.grown g3
  have g : Below w.heap.size w w3 := g.trans (g3.mono g.size)
  clear g3
  go_wp2_with (refine wpList_loadPg rfl _ rfl _ rfl zs (by assumption) ?_)
  go_loopw [3, 11] (fun fr i wr => ∃ k f : Nat, k ≤ n ∧ i = .int .u64 k ∧ fr = .int .u64 f ∧ Hid (f + 2 + 2 * n + lens zs k = 64) ∧ Arr wr w.heap.size zs ∧ Below w.heap.size w wr) (fun _ i _ => n - (intOf i).toNat)
  case atStart => exact ⟨0, 62 - 2 * n, by omega, rfl, by go_num, by show _ = 64; simp only [lens]; omega, hA, g⟩
  case round =>
    obtain ⟨k, f, hk, rfl, rfl, HF, hA, g⟩ := hrel
    by_cases hlt : k < n
    · have hi : (k : Int) < (n : Int) := by omega
      have hlen : nb zs (3 + 2 * k) ≤ f := by
        have h1 := HF.out
        have h2 := lens_le zs (k + 1) (n - (k + 1))
        rw [show k + 1 + (n - (k + 1)) = n by omega, lens] at h2
        omega
      have hf64 : f ≤ 64 := by have := HF.out; omega
      go_wp2_with (refine wpList_loadPg rfl _ rfl _ rfl zs (by assumption) ?_)
      refine (spanOf_any zs k _ h (by omega)).mono ?_
      rintro e w4 ⟨rfl, g4⟩
      have hA := hA.grown g4
      have g : Below w.heap.size w w4 := g.trans (g4.mono g.size)
      clear g4
      obtain ⟨l, hl⟩ : ∃ l, l = nb zs (3 + 2 * k) := ⟨_, rfl⟩
      obtain ⟨q, hq⟩ : ∃ q, q = nb zs (2 + 2 * k) := ⟨_, rfl⟩
      rw [← hl] at hlen ⊢
      rw [← hq]
      have HL : Hid (l = nb zs (3 + 2 * k)) := hl
      clear hl hq

      have hfd : ∀ W : World, (Instr.field 69 (.agg #[.int .u64 q, .int .u64 l]) 1).run Try.prog W = .ok (.int .u64 l) W := fun _ => by kernel_rfl
      go_wp2_with fail
      go_roundw
      case rel => exact ⟨k + 1, f - l, by omega, by go_num, by go_num, by show f - l + 2 + 2 * n + lens zs (k + 1) = 64; have := HF.out; have := HL.out; rw [lens]; omega, hA, g⟩
      case measure => simp [intOf]; omega
    · have e : k = n := by omega
      subst e
      have hfe : f = 62 - 2 * k - lens zs k := by have := HF.out; omega
      have HE : Hid (f = 62 - 2 * k - lens zs k) := hfe
      clear hfe
      go_wp2_with fail
      go_ret
      exact ⟨by rw [← HE.out]; rfl, g⟩

/-- Is slot s empty? -/
def empB (zs : List Int) (s : Nat) : Bool := nb zs (2 + 2 * s) == 0 && nb zs (3 + 2 * s) == 0
/-- The first empty slot from k on, of m; k + m, where there is none. -/
def firstE (zs : List Int) (k : Nat) : Nat → Nat
  | 0 => k
  | m + 1 => if empB zs k = true then k else firstE zs (k + 1) m

set_option maxHeartbeats 1000000 in
theorem firstEmpty_any (zs : List Int) (w : World) (h : IsPg zs) (hc : nb zs 0 ≤ 16) :
    Calls Try.prog 49 #[.agg (pgC zs)] w fun e w' => e = .returned (.int .u64 (firstE zs 0 (nb zs 0))) ∧ Below w.heap.size w w' := by
  obtain ⟨X, hX, hA, g⟩ := boxed zs w h
  obtain ⟨n, hn⟩ : ∃ n, n = nb zs 0 := ⟨_, rfl⟩
  have HN : Hid (n = nb zs 0) := hn
  rw [← hn] at hc ⊢
  clear hn
  go_enter Try.func49, Try.ntmps49
  go_wp2_with (refine wpList_loadPg rfl _ rfl _ rfl zs (by assumption) ?_)
  refine (slots_any zs _ h).mono ?_
  rintro e w1 ⟨rfl, g1⟩
  rw [← HN.out]
  have hA := hA.grown g1
  have g : Below w.heap.size w w1 := g.trans (g1.mono g.size)
  clear g1 hX
  go_wp2_with (refine wpList_loadPg rfl _ rfl _ rfl zs (by assumption) ?_)
  go_loopw [6] (fun i wr => ∃ k : Nat, k ≤ n ∧ i = .int .u64 k ∧ Hid (firstE zs 0 n = firstE zs k (n - k)) ∧ Arr wr w.heap.size zs ∧ Below w.heap.size w wr) (fun i _ => n - (intOf i).toNat)
  case atStart => exact ⟨0, by omega, rfl, rfl, hA, g⟩
  case round =>
    obtain ⟨k, hk, rfl, HF, hA, g⟩ := hrel
    by_cases hlt : k < n
    · have hi : (k : Int) < (n : Int) := by omega
      go_wp2_with (refine wpList_loadPg rfl _ rfl _ rfl zs (by assumption) ?_)
      refine (spanOf_any zs k _ h (by omega)).mono ?_
      rintro e w4 ⟨rfl, g4⟩
      have hA := hA.grown g4
      have g : Below w.heap.size w w4 := g.trans (g4.mono g.size)
      clear g4
      go_wp2_with fail
      refine (isEmpty_any _ _ _).mono ?_
      rintro e w5 ⟨rfl, g5⟩
      have hA := hA.grown g5
      have g : Below w.heap.size w w5 := g.trans (g5.mono g.size)
      clear g5
      cases hE : empB zs k
      · have HS : Hid (firstE zs 0 n = firstE zs (k + 1) (n - (k + 1))) := by
          show _ = _
          rw [HF.out, show n - k = n - (k + 1) + 1 by omega, firstE, hE]
          rfl
        rw [show (nb zs (2 + 2 * k) == 0 && nb zs (3 + 2 * k) == 0) = false from hE]
        clear hE
        go_wp2_with fail
        go_roundw
        case rel => exact ⟨k + 1, by omega, by go_num, HS, hA, g⟩
        case measure => simp [intOf]; omega
      · have HS : Hid (firstE zs 0 n = k) := by
          show _ = _
          rw [HF.out, show n - k = n - (k + 1) + 1 by omega, firstE, hE]
          rfl
        rw [show (nb zs (2 + 2 * k) == 0 && nb zs (3 + 2 * k) == 0) = true from hE]
        clear hE
        go_wp2_with fail
        go_ret
        exact ⟨by rw [HS.out]; rfl, g⟩
    · have e : k = n := by omega
      subst e
      go_wp2_with (refine wpList_loadPg rfl _ rfl _ rfl zs (by assumption) ?_)
      refine (slots_any zs _ h).mono ?_
      rintro e w1 ⟨rfl, g1⟩
      rw [← HN.out]
      have g : Below w.heap.size w w1 := g.trans (g1.mono g.size)
      clear g1
      go_wp2_with fail
      go_ret
      exact ⟨by rw [HF.out, Nat.sub_self]; rfl, g⟩

end Go.Proofs.Ytjbopcplpgoiaaa
