/-
  The law FnExactFreeIn answers true at all bytes.
-/
import Derived.Test.YtpoccjlngbdjlaaQDLoad

namespace Go.Proofs.Ytpoccjlngbdjlaa.Dr
open Go.RowKit
set_option linter.unusedVariables false

def freeN (zs : List Int) : Nat := 62 - 2 * nb zs 0 - lens zs (nb zs 0)
def freeOf (zs : List Int) : Int := if fltOf zs = 0 then (freeN zs : Int) else 0

set_option maxHeartbeats 1000000 in
theorem l2Free_any (a : Option Addr) (zs : List Int) (c : Nat) (w : World) (hr : Reads w a zs) (h : Fine zs) :
    Calls Try.prog 73 #[.slice a 64 c] w fun e w' => e = .returned (.int .i64 (freeN zs)) ∧ w' = w := by
  have hc := h.few
  have hf := h.sum
  unfold freeN
  obtain ⟨n, hn⟩ : ∃ n, n = nb zs 0 := ⟨_, rfl⟩
  have HN : Hid (nb zs 0 = n) := hn.symm
  rw [← hn] at hc hf ⊢
  clear hn
  go_enter Try.func73, Try.ntmps73
  go_wp2_with fail
  refine (l2Count_any a zs c _ hr h.pg).mono ?_
  rintro e w' ⟨rfl, rfl⟩
  rw [HN.out]
  go_wp2_with fail
  go_loop [3, 4] (fun fr i => ∃ k f : Nat, k ≤ n ∧ i = .int .i64 k ∧ fr = .int .i64 f ∧ Hid (f + 2 + 2 * n + lens zs k = 64)) (fun _ i => n - (intOf i).toNat)
  case atStart => exact ⟨0, 62 - 2 * n, by omega, rfl, by go_num, by show _ = 64; simp only [lens]; omega⟩
  case round =>
    obtain ⟨k, f, hk, rfl, rfl, HF⟩ := hrel
    go_wp2_with fail
    refine (l2Count_any a zs c _ hr h.pg).mono ?_
    rintro e w' ⟨rfl, rfl⟩
    rw [HN.out]
    by_cases hlt : k < n
    · have hi : (k : Int) < (n : Int) := by omega
      have hlen : nb zs (3 + 2 * k) ≤ f := by
        have h1 := HF.out
        have h2 := lens_le zs (k + 1) (n - (k + 1))
        rw [show k + 1 + (n - (k + 1)) = n by omega, lens] at h2
        omega
      have hf64 : f ≤ 64 := by have := HF.out; omega
      go_wp2_with fail
      refine (l2Size_any a zs c k _ hr h.pg (by omega)).mono ?_
      rintro e w' ⟨rfl, rfl⟩
      obtain ⟨l, hl⟩ : ∃ l, l = nb zs (3 + 2 * k) := ⟨_, rfl⟩
      rw [← hl] at hlen ⊢
      have HL : Hid (l = nb zs (3 + 2 * k)) := hl
      clear hl
      go_wp2_with fail
      go_round
      case rel => exact ⟨k + 1, f - l, by omega, by go_num, by go_num, by show f - l + 2 + 2 * n + lens zs (k + 1) = 64; have := HF.out; have := HL.out; rw [lens]; omega⟩
      case measure => simp [intOf]; omega
    · have e : k = n := by omega
      subst e
      have HE : Hid (f = 62 - 2 * k - lens zs k) := by have := HF.out; show f = _; omega
      go_wp2_with fail
      go_ret
      exact ⟨by rw [← HE.out]; rfl, rfl⟩

/-- Block b holds the two cells of an IntResult, and may be written. -/
structure IRes (w : World) (b : Nat) (q v : Int) : Prop where
  c0 : w.cell? ⟨b, 0, none⟩ = some (.int .i64 q)
  c1 : w.cell? ⟨b, 1, none⟩ = some (.int .i64 v)
  f0 : w.frozen? ⟨b, 0, none⟩ = false
  f1 : w.frozen? ⟨b, 1, none⟩ = false
theorem IRes.lt {b : Nat} {w : World} {q v : Int} (h : IRes w b q v) : b < w.heap.size := World.block_lt_of_cell? w _ h.c0
theorem IRes.below {b : Nat} {w w' : World} {q v : Int} (h : IRes w b q v) (hb : Below w.heap.size w w') : IRes w' b q v :=
  ⟨(hb.cell (p := ⟨b, 0, none⟩) h.lt).trans h.c0, (hb.cell (p := ⟨b, 1, none⟩) h.lt).trans h.c1, (hb.frozen (p := ⟨b, 0, none⟩) h.lt).trans h.f0, (hb.frozen (p := ⟨b, 1, none⟩) h.lt).trans h.f1⟩

def freeV (zs : List Int) : Value := .agg #[.int .i64 (fltOf zs), .int .i64 (freeOf zs)]

end Go.Proofs.Ytpoccjlngbdjlaa.Dr

/-
  The contracts of cellAt and of the model's l2Has: is there a cell in a slot?
-/
namespace Go.Proofs.Ytpoccjlngbdjlaa.Dr
open Go.RowKit
set_option linter.unusedVariables false

/-- Is n from lo to hi? -/
def inR (n lo hi : Int) : Bool := decide (lo ≤ n) && decide (n ≤ hi)

set_option maxHeartbeats 400000 in
theorem isWithin_any (n lo hi : Int) (w : World) : Calls Try.prog 60 #[.int .i64 n, .int .i64 lo, .int .i64 hi] w fun e w' => e = .returned (.bool (inR n lo hi)) ∧ w' = w := by
  by_cases h1 : lo ≤ n
  · have d1 : decide (lo ≤ n) = true := by simpa using h1
    have e1 : inR n lo hi = decide (n ≤ hi) := by simp [inR, h1]
    rw [e1]
    go_enter Try.func60, Try.ntmps60
    go_wp2
    go_ret
    exact ⟨rfl, rfl⟩
  · have d1 : decide (lo ≤ n) = false := by simpa using h1
    have e1 : inR n lo hi = false := by simp [inR, h1]
    rw [e1]
    go_enter Try.func60, Try.ntmps60
    go_wp2
    go_ret
    exact ⟨rfl, rfl⟩

set_option maxHeartbeats 400000 in
theorem l1In_any (n lo hi : Int) (w : World) : Calls Try.prog 62 #[.int .i64 n, .int .i64 lo, .int .i64 hi] w fun e w' => e = .returned (.bool (inR n lo hi)) ∧ w' = w := by
  by_cases h1 : lo ≤ n
  · have d1 : decide (lo ≤ n) = true := by simpa using h1
    have e1 : inR n lo hi = decide (n ≤ hi) := by simp [inR, h1]
    rw [e1]
    go_enter Try.func62, Try.ntmps62
    go_wp2
    go_ret
    exact ⟨rfl, rfl⟩
  · have d1 : decide (lo ≤ n) = false := by simpa using h1
    have e1 : inR n lo hi = false := by simp [inR, h1]
    rw [e1]
    go_enter Try.func62, Try.ntmps62
    go_wp2
    go_ret
    exact ⟨rfl, rfl⟩

/-- Has slot x a cell? -/
def hasC (zs : List Int) (x : Int) : Bool := inR x 0 (nb zs 0 - 1) && !(empB zs x.toNat)

def CeS (w : World) (x y p l : Nat) (V : World) : Prop := (∃ a b : Int, V.cell? ⟨x, 0, none⟩ = some (.int .u64 a) ∧ V.cell? ⟨x, 1, none⟩ = some (.int .u64 b)) ∧ V.frozen? ⟨x, 0, none⟩ = false ∧ V.frozen? ⟨x, 1, none⟩ = false ∧ V.cell? ⟨y, 0, none⟩ = some (.int .u64 p) ∧ V.cell? ⟨y, 1, none⟩ = some (.int .u64 l) ∧ Below w.heap.size w V
theorem ceKeep {w : World} {x y p l : Nat} {W V : World} (h : CeS w x y p l W) (hb : Below W.heap.size W V) : CeS w x y p l V := by
  obtain ⟨⟨a, b, h1, h2⟩, h3, h4, h5, h6, h7⟩ := h
  have hx : x < W.heap.size := World.block_lt_of_cell? W _ h1
  have hy : y < W.heap.size := World.block_lt_of_cell? W _ h5
  exact ⟨⟨a, b, (hb.cell (p := ⟨x, 0, none⟩) hx).trans h1, (hb.cell (p := ⟨x, 1, none⟩) hx).trans h2⟩, (hb.frozen (p := ⟨x, 0, none⟩) hx).trans h3, (hb.frozen (p := ⟨x, 1, none⟩) hx).trans h4, (hb.cell (p := ⟨y, 0, none⟩) hy).trans h5, (hb.cell (p := ⟨y, 1, none⟩) hy).trans h6, h7.trans (hb.mono h7.size)⟩

set_option maxHeartbeats 1000000 in
theorem l2Has_any (a : Option Addr) (zs : List Int) (c : Nat) (x : Int) (w : World) (hr : Reads w a zs) (h : Fine zs) (hx : (Lit.int .i64 x).wf = true) :
    Calls Try.prog 64 #[.slice a 64 c, .int .i64 x] w fun e w' => e = .returned (.bool (hasC zs x)) ∧ w' = w := by
  have hc := h.few
  obtain ⟨n, hn⟩ : ∃ n, n = nb zs 0 := ⟨_, rfl⟩
  have HN : Hid (nb zs 0 = n) := hn.symm
  have HH : Hid (hasC zs x = (inR x 0 (n - 1) && !(empB zs x.toNat))) := by show _ = _; rw [hn]; rfl
  rw [← hn] at hc
  clear hn
  go_enter Try.func64, Try.ntmps64
  go_wp2_with fail
  refine (l2Count_any a zs c _ hr h.pg).mono ?_
  rintro e w' ⟨rfl, rfl⟩
  rw [HN.out]
  go_wp2_with fail
  refine (l1In_any _ _ _ _).mono ?_
  rintro e w2 ⟨rfl, rfl⟩
  cases hin : inR x 0 (n - 1)
  · have HF : Hid (hasC zs x = false) := by show _ = _; rw [HH.out, hin]; rfl
    clear hin
    go_wp2_with fail
    go_ret
    exact ⟨by rw [HF.out]; rfl, rfl⟩
  · obtain ⟨s, hs⟩ : ∃ s : Nat, x = (s : Int) := by
      simp [inR] at hin
      exact ⟨x.toNat, by omega⟩
    subst hs
    have hsn : s < n := by simp [inR] at hin; omega
    have HF : Hid (hasC zs (s : Int) = decide ((0 : Int) < (nb zs (3 + 2 * s) : Int))) := by
      show _ = _
      rw [HH.out, hin, Int.toNat_natCast, Bool.true_and]
      rcases h.place s (by rw [HN.out]; exact hsn) with ⟨h1, h2⟩ | ⟨h1, h2, _⟩
      · simp [empB, h1, h2]
      · have : empB zs s = false := by simp [empB, h2]
        rw [this]
        simp
        omega
    clear hin HH
    go_wp2_with fail
    refine (l2Size_any a zs c s _ hr h.pg (by omega)).mono ?_
    rintro e w' ⟨rfl, rfl⟩
    obtain ⟨l, hl⟩ : ∃ l, l = nb zs (3 + 2 * s) := ⟨_, rfl⟩
    rw [← hl] at HF ⊢
    clear hl
    go_wp2_with fail
    go_ret
    exact ⟨by rw [HF.out]; simp, rfl⟩

end Go.Proofs.Ytpoccjlngbdjlaa.Dr
