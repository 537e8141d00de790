/-
  lwRows of the same rows.
-/
import Derived.Test.YtdgonddimenmdaaGreatQDfr
import Derived.BigQuiet
import Derived.Test.YtdgonddimenmdaaGreatQSlo

namespace Go.Proofs.YtdgonddimenmdaaGreat
open Go.RowKit
set_option linter.unusedVariables false
set_option maxRecDepth 20000

set_option maxHeartbeats 1000000 in
theorem lwRows_same (a a' : Option Addr) (rs : List Rw) (n c c' : Nat) (w : World) (hn : rs.length = n) (hm : n ≤ 100000) (hr : Rs rwE 4 w a rs) (hr' : Rs rwE 4 w a' rs) :
    Calls Tryz.prog 14 #[.slice a n c, .slice a' n c'] w fun e w' => e = .returned (.bool true) ∧ Below w.heap.size w w' := by
  have HN : Hid (rs.length = n) := hn
  have HR : Hid (Rs rwE 4 w a rs ∧ Rs rwE 4 w a' rs) := ⟨hr, hr'⟩
  clear hn hr hr'
  go_enter Tryz.func14, Tryz.ntmps14
  go_wp2_with fail
  go_loopw [5] (fun i wr => ∃ j : Nat, j ≤ n ∧ i = .int .i64 j ∧ Below w.heap.size w wr) (fun i _ => n - (intOf i).toNat)
  case atStart => exact ⟨0, Nat.zero_le _, rfl, Below.refl _ _⟩
  case round =>
    obtain ⟨j, hj, rfl, g⟩ := hrel
    by_cases hlt : j < n
    · obtain ⟨x, hx⟩ := at_lt (rs := rs) (i := j) (by rw [HN.out]; exact hlt)
      obtain ⟨b, off, rfl, X⟩ := HR.out.1.row hx
      obtain ⟨b', off', rfl, X'⟩ := HR.out.2.row hx
      have hjn : (j : Int) < (n : Int) := by omega
      have X := X.below g (World.block_lt_of_cell? _ _ X.c0)
      have X' := X'.below g (World.block_lt_of_cell? _ _ X'.c0)
      clear hx
      obtain ⟨xt, xk, xv, xs⟩ := x
      obtain ⟨x0, x1, x2, x3⟩ := X
      obtain ⟨y0, y1, y2, y3⟩ := X'
      dsimp only at x0 x1 x2 x3 y0 y1 y2 y3
      go_upto_region 6 with (fail)
      go_quiet (fail)
      go_wp2_with fail
      go_roundw
      case rel => exact ⟨j + 1, by omega, by go_num, g.trans ⟨rfl, rfl, rfl, Nat.le_refl _, fun _ _ => rfl⟩⟩
      case measure => simp [intOf]; omega
    · have hjn : ¬ (j : Int) < (n : Int) := by omega
      go_wp2_with fail
      go_ret
      exact ⟨rfl, g⟩

end Go.Proofs.YtdgonddimenmdaaGreat

/-
  Rows that are seen: plain facts: they have no fault, are few, and each is found where it is.
-/
namespace Go.Proofs.YtdgonddimenmdaaGreat
open Go.RowKit Go.Maps
set_option linter.unusedVariables false

/-- Where a cell of right pages stands. -/
def AtSpot (ps : List (List Int)) (x : Spt) : Prop := ∃ (i k : Nat) (zs : List Int), ps[i]? = some zs ∧ x.p = i ∧ x.s = k ∧ k < nb zs 0 ∧ empB zs k = false ∧ x.c = unp (cellOf zs k) ∧ fltOf zs = 0

theorem cellsTo_at (p : Int) (zs : List Int) : ∀ n, ∀ x ∈ cellsTo p zs n, ∃ k : Nat, k < n ∧ x.p = p ∧ x.s = k ∧ empB zs k = false ∧ x.c = unp (cellOf zs k)
  | 0, x, h => by simp [cellsTo] at h
  | n + 1, x, h => by
    simp only [cellsTo, List.mem_append] at h
    rcases h with h | h
    · obtain ⟨k, h1, h2⟩ := cellsTo_at p zs n x h
      exact ⟨k, by omega, h2⟩
    · unfold oneC at h
      split at h
      · simp at h
      · rename_i he
        simp at h
        exact ⟨n, by omega, by rw [h], by rw [h], by simpa using he, by rw [h]⟩

theorem pageL_at (p : Int) (zs : List Int) : ∀ x ∈ pageL p zs, ∃ k : Nat, k < nb zs 0 ∧ x.p = p ∧ x.s = k ∧ empB zs k = false ∧ x.c = unp (cellOf zs k) ∧ fltOf zs = 0 := by
  intro x h
  unfold pageL at h
  split at h
  · rename_i hc
    obtain ⟨k, h1, h2, h3, h4, h5⟩ := cellsTo_at p zs _ x h
    exact ⟨k, h1, h2, h3, h4, h5, (pageC_fine hc).1⟩
  · simp at h

theorem spotsOf_at : ∀ (ps : List (List Int)) (p : Nat) (x : Spt), x ∈ spotsOf p ps → ∃ (i k : Nat) (zs : List Int), ps[i]? = some zs ∧ x.p = (p + i : Nat) ∧ x.s = k ∧ k < nb zs 0 ∧ empB zs k = false ∧ x.c = unp (cellOf zs k) ∧ fltOf zs = 0
  | [], p, x, h => by simp [spotsOf] at h
  | z :: l, p, x, h => by
    simp only [spotsOf, List.mem_append] at h
    rcases h with h | h
    · obtain ⟨k, h1, h2, h3, h4, h5, h6⟩ := pageL_at p z x h
      exact ⟨0, k, z, rfl, by rw [h2]; simp, h3, h1, h4, h5, h6⟩
    · obtain ⟨i, k, zs, h1, h2, h3⟩ := spotsOf_at l (p + 1) x h
      exact ⟨i + 1, k, zs, by simpa using h1, by rw [h2]; congr 1; omega, h3⟩

theorem allL_at {ps : List (List Int)} : ∀ x ∈ allL ps, AtSpot ps x := by
  intro x h
  unfold allL at h
  split at h
  · obtain ⟨i, k, zs, h1, h2, h3⟩ := spotsOf_at ps 0 x h
    exact ⟨i, k, zs, h1, by rw [h2]; simp, h3⟩
  · simp at h

theorem unp_row {zs : List Int} (hq : (unp zs).q = 0) (hf : (unp zs).f ≠ 1) : faultI (unp zs).t (unp zs).k (unp zs).v (unp zs).s = 0 := by
  unfold unp at *
  split at hq
  · exact absurd hq (by decide)
  · rename_i h0
    rw [if_neg h0] at hf ⊢
    split at hq
    · rename_i h1
      rw [if_pos h1] at hf ⊢
      unfold stubC at *
      split at hq
      · rename_i h2
        rw [if_pos h2] at hf
        exact absurd rfl hf
      · exact absurd hq (by decide)
    · rename_i h1
      rw [if_neg h1] at hf ⊢
      split at hq
      · rename_i h2
        rw [if_pos h2] at hf ⊢
        unfold rowC at *
        split at hq
        · rename_i h3
          rw [if_pos h3]
          exact h3.2.2
        · exact absurd hq (by decide)
      · exact absurd hq (by decide)

theorem mvF_mem : ∀ (xs : List Spt) (f : Int → Int → Option Value) (a b : Int) (v : Value), (xs.foldl mvS f) a b = some v → f a b = some v ∨ ∃ x ∈ xs, x.c.f = 2 ∧ v = rowV x
  | [], f, a, b, v, h => .inl h
  | x :: xs, f, a, b, v, h => by
    rw [List.foldl_cons] at h
    rcases mvF_mem xs _ a b v h with h1 | ⟨y, hy, h2⟩
    · unfold mvS at h1
      split at h1
      · rename_i hf
        unfold upd at h1
        split at h1
        · right
          simp at h1
          exact ⟨x, by simp, hf, h1.symm⟩
        · exact .inl h1
      · exact .inl h1
    · exact .inr ⟨y, by simp [hy], h2⟩

theorem rwOf_rowV (x : Spt) : rwOf (some (rowV x)) = ⟨x.c.t, x.c.k, x.c.v, x.c.s⟩ := rfl

/-- A row that is seen has no fault, and stands where a cell is. -/
theorem seen_at {ps : List (List Int)} (hp : PgOk ps) (hq : viewQ ps = 0) : ∀ y ∈ seenL ps, rwF y.r = 0 ∧ y.q = 0 ∧ ∃ x ∈ allL ps, y.p = x.p ∧ y.s = x.s := by
  intro y hy
  obtain ⟨h1, h2, h3⟩ := viewQ_nodup hq
  have hok := (allL_ok hp).1
  unfold seenL plF at hy
  obtain ⟨x, hx, hs⟩ := List.mem_flatMap.1 hy
  have hrow : ∀ z ∈ allL ps, z.c.f ≠ 1 → rwF ⟨z.c.t, z.c.k, z.c.v, z.c.s⟩ = 0 := fun z hz hf => by
    obtain ⟨i, k, zs, _, _, _, _, _, hc, _⟩ := allL_at z hz
    have hzq := (hok z hz).q
    unfold rwF
    rw [hc] at hf hzq ⊢
    exact unp_row hzq hf
  unfold see1 at hs
  split at hs
  · rename_i hf
    simp at hs
    subst hs
    exact ⟨hrow x hx (by rw [hf]; decide), rfl, x, hx, rfl, rfl⟩
  · split at hs
    · rename_i hf
      simp at hs
      subst hs
      refine ⟨?_, rfl, x, hx, rfl, rfl⟩
      have hnone := stQ_zero h2
      have hsome : (mvF (allL ps) x.c.p x.c.l).isSome = true := by
        unfold noneB at hnone
        have := List.any_eq_false.1 hnone x hx
        simp [hf] at this
        cases hm : mvF (allL ps) x.c.p x.c.l with
        | none => rw [hm] at this; simp at this
        | some v => rfl
      obtain ⟨v, hv⟩ := Option.isSome_iff_exists.1 hsome
      have hv' := hv
      unfold mvF at hv'
      rcases mvF_mem (allL ps) _ _ _ _ hv' with h | ⟨z, hz, hzf, rfl⟩
      · simp at h
      · dsimp only
        rw [hv, rwOf_rowV]
        exact hrow z hz (by rw [hzf]; decide)
    · simp at hs

theorem pageL_few (p : Int) (zs : List Int) (hz : ∀ z ∈ zs, 0 ≤ z ∧ z ≤ 255) : (pageL p zs).length ≤ 16 := by
  unfold pageL
  split
  · rename_i h
    have hF := fine_of hz (pageC_fine h).1
    exact Nat.le_trans (cellsTo_len p zs _) hF.few
  · simp
theorem spotsOf_few : ∀ (ps : List (List Int)) (p : Nat), PgOk ps → (spotsOf p ps).length ≤ 16 * ps.length
  | [], p, _ => by simp [spotsOf]
  | z :: l, p, h => by
    have h1 := pageL_few p z (h z (by simp)).2
    have h2 := spotsOf_few l (p + 1) (fun y hy => h y (by simp [hy]))
    simp only [spotsOf, List.length_append, List.length_cons]
    omega
theorem seen_few {ps : List (List Int)} (hp : PgOk ps) (h2 : ps.length ≤ 2) : (seenL ps).length ≤ 32 := by
  have h1 := plF_len (mvF (allL ps)) (allL ps)
  have : (allL ps).length ≤ 16 * ps.length := by
    unfold allL
    split
    · exact spotsOf_few ps 0 hp
    · simp
  unfold seenL
  omega

def rsOk (p : Option Rw) (r : Rw) : Bool := match p with | none => true | some q => rwB q r
theorem rsF_cons (p : Option Rw) (r : Rw) (l : List Rw) : rsF p (r :: l) = if rwF r = 0 then (if rsOk p r = true then rsF (some r) l else 1) else rwF r := rfl
theorem rsF_ok : ∀ (l : List Rw) (p : Option Rw), (∀ r ∈ l, rwF r = 0) → l.Pairwise rLt → (∀ q, p = some q → ∀ r ∈ l, rLt q r) → rsF p l = 0
  | [], _, _, _, _ => rfl
  | r :: l, p, h1, h2, h3 => by
    have hb : rsOk p r = true := by
      cases p with
      | none => rfl
      | some q => exact (befB_iff _ _ _ _).2 (h3 q rfl r (by simp))
    rw [rsF_cons, if_pos (h1 r (by simp)), if_pos hb]
    have h2' := List.pairwise_cons.1 h2
    exact rsF_ok l (some r) (fun x hx => h1 x (by simp [hx])) h2'.2 (fun q e x hx => by cases e; exact h2'.1 x hx)

/-- Rows that are seen in two pages have no fault together. -/
theorem rows_seen {ps : List (List Int)} {rs : List Rw} (hp : PgOk ps) (hq : viewQ ps = 0) (h2 : ps.length ≤ 2) (h : RowsOrd ps rs) : rowsQ rs = 0 := by
  have hl : rs.length ≤ 32 := by rw [h.1.length_eq, List.length_map]; exact seen_few hp h2
  unfold rowsQ
  rw [if_neg (by omega)]
  refine rsF_ok rs none (fun r hr => ?_) h.2 (fun q e => by cases e)
  obtain ⟨y, hy, rfl⟩ := List.mem_map.1 (h.1.mem_iff.1 hr)
  exact (seen_at hp hq y hy).1

/-- Each row that is seen is found where it is. -/
theorem row_found {ps : List (List Int)} {rs : List Rw} (hp : PgOk ps) (hq : viewQ ps = 0) (h : RowsOrd ps rs) {r : Rw} (hr : r ∈ rs) : ∃ z, findR ps r.t r.k = z ∧ z.q = 0 ∧ z.r = r ∧ ∃ (i k : Nat) (zs : List Int), z.p = i ∧ z.s = k ∧ ps[i]? = some zs ∧ slotQ zs k = 0 := by
  obtain ⟨y, hy, rfl⟩ := List.mem_map.1 (h.1.mem_iff.1 hr)
  obtain ⟨hy1, hy2, hy3⟩ := seen_at hp hq y hy
  obtain ⟨_, _, hnd⟩ := viewQ_nodup hq
  have hkm : (y.r.t, y.r.k) ∈ (seenKV ps).map (·.1) := List.mem_map.2 ⟨plK y, List.mem_map.2 ⟨y, hy, rfl⟩, rfl⟩
  have hkw := plF_ok (allL_ok hp).1 y hy
  obtain ⟨z, hz, hf, e, e1, e2⟩ := rowK_at (x := ⟨y.r.t, y.r.k, kw_small hkw.1 hkw.2.1⟩) hkm
  dsimp only at hf e1 e2
  have hv : kvF (seenKV ps) y.r.t y.r.k = some (plV y) := kvF_mem hnd (List.mem_map.2 ⟨y, hy, rfl⟩)
  have hv2 : kvF (seenKV ps) y.r.t y.r.k = some (plV z) := kvF_mem hnd (List.mem_map.2 ⟨z, hz, by unfold plK; rw [e1, e2]⟩)
  rw [hv] at hv2
  simp only [Option.some.injEq, plV, Value.agg.injEq, Array.mk.injEq, List.cons.injEq, Value.int.injEq, Value.string.injEq, true_and, and_true] at hv2
  obtain ⟨_, _, _, q1, q2, q3, q4⟩ := hv2
  have hzr : z.r = y.r := rw_ext q1.symm q2.symm q3.symm q4.symm
  obtain ⟨hz1, hz2, x, hx, hxp, hxs⟩ := seen_at hp hq z hz
  obtain ⟨i, k, zs, hi, hp', hs', hk, he, _, hfl⟩ := allL_at x hx
  refine ⟨z, ?_, hz2, hzr, i, k, zs, by rw [hxp, hp'], by rw [hxs, hs'], hi, ?_⟩
  · unfold findR
    have hrng : (inR y.r.t 0 3 && inR y.r.k 1 99) = true := by
      unfold rwF faultI at hy1
      split at hy1
      · rename_i hb
        simp only [rngB, inW, Bool.and_eq_true, decide_eq_true_eq] at hb
        simp only [inR, Bool.and_eq_true, decide_eq_true_eq]
        omega
      · exact absurd hy1 (by decide)
    rw [if_pos hq, if_pos hrng, hf]
    rfl
  · unfold slotQ
    rw [if_pos hfl, if_pos]
    unfold hasC inR
    simp [he]
    omega

end Go.Proofs.YtdgonddimenmdaaGreat
