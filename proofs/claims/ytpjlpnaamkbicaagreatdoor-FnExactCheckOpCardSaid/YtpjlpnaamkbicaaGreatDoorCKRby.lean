/-
  The program's rowsByKey; the model's l6At.
-/
import Derived.Test.YtpjlpnaamkbicaaGreatDoorCKChw
import Derived.Test.YtpjlpnaamkbicaaGreatDoorCKMp
import Derived.Test.YtpjlpnaamkbicaaGreatDoorCKRdw

namespace Go.Proofs.YtpjlpnaamkbicaaGreatDoor
open Go.RowKit Go.Maps
set_option linter.unusedVariables false

def rwK (r : Rw) : (Int × Int) × Value := ((r.t, r.k), rwA r)
theorem RowC.turn {w w' : World} {b o : Nat} {r : Rw} (h : RowC w b o r) {mb : Nat} (ht : w.mapTurned w' mb) (hne : b ≠ mb) : RowC w' b o r :=
  ⟨cell_turn ht h.c0, cell_turn ht h.c1, cell_turn ht h.c2, cell_turn ht h.c3⟩

set_option maxRecDepth 20000 in
set_option maxHeartbeats 4000000 in
theorem rowsByKey_any (a : Option Addr) (rs : List Rw) (n c : Nat) (w : World) (hn : rs.length = n) (hm : n ≤ 100000) (hk : ∀ r ∈ rs, Kw r.t r.k) (hr : Rs rwE 4 w a rs) :
    Calls Tryz.prog 62 #[.slice a n c] w fun e w' => ∃ b sz, e = .returned (.map (some b)) ∧ w.heap.size ≤ b ∧ Below w.heap.size w w' ∧ MapK 97 w' b (rs.map rwK) sz := by
  have hmm := @run_makeMap Tryz.prog
  have HN : Hid (rs.length = n) := hn
  have HK : Hid (∀ r ∈ rs, Kw r.t r.k) := hk
  have hk4 : MapK 97 (w.alloc (.map #[] 0)) w.heap.size [] 0 := ⟨MapF.made _ _, Nat.le_refl _, by simp⟩
  have gA : Below w.heap.size w (w.alloc (.map #[] 0)) := by go_grown
  have hr := hr.below gA (Nat.le_refl _)
  clear hn hk
  go_enter Tryz.func62, Tryz.ntmps62
  go_wp2_with fail
  generalize w.alloc (.map #[] 0) = X at hk4 gA hr ⊢
  obtain ⟨vb, hvb0⟩ : ∃ vb, vb = w.heap.size := ⟨_, rfl⟩
  have hvb : w.heap.size ≤ vb := by omega
  rw [← hvb0] at hk4
  have HVB : Hid (vb = w.heap.size) := hvb0
  rw [show w.heap.size = vb from hvb0.symm]
  clear hvb0
  go_loopw [9] (fun i wr => ∃ (j sz : Nat), j ≤ n ∧ i = .int .i64 j ∧ Below w.heap.size w wr ∧ Rs rwE 4 wr a rs ∧ MapK 97 wr vb ((rs.take j).map rwK) sz) (fun i _ => n - (intOf i).toNat)
  case atStart => exact ⟨0, 0, Nat.zero_le _, rfl, gA, hr, hk4⟩
  case round =>
    clear hr hk4 gA
    obtain ⟨j, sz, hj, rfl, g, hr, hK1⟩ := hrel
    by_cases hlt : j < n
    · obtain ⟨x, hx⟩ := at_lt (rs := rs) (i := j) (by rw [HN.out]; exact hlt)
      obtain ⟨b, off, rfl, X'⟩ := hr.row hx
      have hjn : (j : Int) < (n : Int) := by omega
      have HT : Hid ((rs.take (j + 1)).map rwK = (rs.take j).map rwK ++ [rwK x]) := by show _ = _; rw [take_snoc hx, List.map_append]; rfl
      have HL2 : Hid (((rs.take j).map rwK).length = j) := by show _ = _; rw [List.length_map, List.length_take, HN.out]; omega
      have hKw : Hid (Kw x.t x.k) := HK.out x (List.mem_of_getElem? hx)
      clear hx
      obtain ⟨xt, xk, xv, xs0⟩ := x
      dsimp only at hKw
      obtain ⟨x0, x1, x2, x3⟩ := X'
      dsimp only at x0 x1 x2 x3
      have hgs := g.size
      have hcb : wr.heap.size ≠ vb := by have := hK1.1.lt; omega
      go_upto_region 5 with (fail)
      generalize hY : World.alloc _ _ = Y
      have gY : Below wr.heap.size wr Y := by rw [← hY]; go_grown
      have C : RowC Y wr.heap.size 0 ⟨xt, xk, xv, xs0⟩ := by rw [← hY]; exact ⟨by simp [go_sem], by simp [go_sem], by simp [go_sem], by simp [go_sem]⟩
      have hK1 := hK1.below gY
      have hr := hr.below gY (Nat.le_refl _)
      have g := g.trans (gY.mono g.size)
      clear hY gY x0 x1 x2 x3
      generalize wr.heap.size = cb at C hcb ⊢
      refine wp_region_held_drew (S := fun V => RowC V cb 0 ⟨xt, xk, xv, xs0⟩ ∧ Below w.heap.size w V) (by kernel_rfl) ⟨C.below (Below.refl _ _).drew C.lt, g.drew⟩ (fun hHeld => ?_)
      have hK1 := hK1.below (Below.refl _ _).drew
      have hr := hr.below (Below.refl _ _).drew (Nat.le_refl _)
      generalize Y.drew = D at hHeld hK1 hr ⊢
      clear C g
      refine wpAnyH_take (i := 0) (v := ?v1) rfl (by kernel_rfl) (by kernel_rfl) (by kernel_rfl) (fun _ _ _ h => h) (Or.inl ⟨by kernel_rfl, ?h1⟩) hHeld ?_
      case h1 => intro u hSw; obtain ⟨q0, q1, q2, q3⟩ := hSw.1; dsimp only at q0 q1 q2 q3; clear hSw; go_simp; try with_reducible rfl
      try simp only [List.getElem_toArray]
      try simp only [List.getElem_cons_succ]
      try simp only [List.getElem_cons_zero]
      try simp only [Act.put]
      try simp only [List.setIfInBounds_toArray]
      try simp only [List.set]
      refine wpAnyH_take (i := 1) (v := ?v2) rfl (by kernel_rfl) (by kernel_rfl) (by kernel_rfl) (fun _ _ _ h => h) (Or.inl ⟨by kernel_rfl, ?h2⟩) hHeld ?_
      case h2 => intro u hSw; obtain ⟨q0, q1, q2, q3⟩ := hSw.1; dsimp only at q0 q1 q2 q3; clear hSw; go_simp; try with_reducible rfl
      try simp only [List.getElem_toArray]
      try simp only [List.getElem_cons_succ]
      try simp only [List.getElem_cons_zero]
      try simp only [Act.put]
      try simp only [List.setIfInBounds_toArray]
      try simp only [List.set]
      refine wpAnyH_take (i := 3) (v := ?v3) rfl (by kernel_rfl) (by kernel_rfl) (by kernel_rfl) (fun _ _ _ h => h) (Or.inl ⟨by kernel_rfl, ?h3⟩) hHeld ?_
      case h3 => intro u hSw; obtain ⟨q0, q1, q2, q3⟩ := hSw.1; dsimp only at q0 q1 q2 q3; clear hSw; go_simp; try with_reducible rfl
      try simp only [List.getElem_toArray]
      try simp only [List.getElem_cons_succ]
      try simp only [List.getElem_cons_zero]
      try simp only [Act.put]
      try simp only [List.setIfInBounds_toArray]
      try simp only [List.set]
      refine wpAnyH_ready (rs := [2]) (by kernel_rfl) (by simp) ?_
      refine AllReadyH.cons rfl (fun K hK => ?_) AllReadyH.nil
      go_simp
      go_wp2_with (go_at_call 61; refine (keyOf_any _ _ _ _ _).mono ?_; rintro e W3 ⟨rfl, gg⟩)
      refine hK.out _ _ (⟨hHeld.1.below gg hHeld.1.lt, hHeld.2.trans (gg.mono hHeld.2.size)⟩) (fun hHeld => ?_)
      clear hK K
      have hK1 := hK1.below gg
      have hr := hr.below gg (Nat.le_refl _)
      clear gg
      try simp only [Act.put]
      try simp only [List.setIfInBounds_toArray]
      try simp only [List.set]
      obtain ⟨W4, e4, m4, t4⟩ := hK1.1.store keyT73 Tryz.underlying100 hKw.out (.agg #[.int .i64 xt, .int .i64 xk, .int .i64 xv, .string xs0]) (by have := hK1.2.1; rw [HL2.out] at this; omega)
      simp only [kv] at e4
      have hK2 := hK1.add m4
      have hlt1 := hK1.1.lt
      have gT := turned_below t4 hvb hlt1
      refine wpAnyH_ready (rs := [4]) (by kernel_rfl) (by simp) ?_
      refine AllReadyH.cons rfl (fun K hK => ?_) AllReadyH.nil
      go_simp
      refine hK.out _ _ ⟨hHeld.1.turn t4 hcb, hHeld.2.trans gT⟩ (fun hHeld => ?_)
      clear hK K e4
      try simp only [Act.put]
      try simp only [List.setIfInBounds_toArray]
      try simp only [List.set]
      refine wpAnyH_done (by kernel_rfl) ?_ _
      have g2 := hHeld.2
      have hr2 := hr.turn t4
      have hK2 : MapK 97 W4 vb ((rs.take (j + 1)).map rwK) (nSz (kvF ((rs.take j).map rwK) xt xk) sz) := by rw [HT.out]; exact hK2
      clear hHeld
      go_wp2_with fail
      go_roundw
      case rel => exact ⟨j + 1, _, by omega, by go_num, g2, hr2, hK2⟩
      case measure => simp [intOf]; omega
    · have e : j = n := by omega
      subst e
      rw [List.take_of_length_le (by rw [HN.out]; exact Nat.le_refl _)] at hK1
      go_wp2_with fail
      go_ret
      exact ⟨vb, sz, rfl, hvb, g, hK1⟩

/-- Where the row of that key is; none: -1. -/
def AtP (rs : List Rw) (t k : Int) (r : Int) : Prop := (r = -1 ∧ ∀ x ∈ rs, ¬ (x.t = t ∧ x.k = k)) ∨ ∃ (i : Nat) (x : Rw), r = i ∧ rs[i]? = some x ∧ x.t = t ∧ x.k = k

set_option maxHeartbeats 1000000 in
theorem l6At_any (a : Option Addr) (rs : List Rw) (n c : Nat) (t k : Int) (w : World) (hn : rs.length = n) (hm : n ≤ 100000) (hr : Rs rwE 4 w a rs) :
    Calls Tryz.prog 107 #[.slice a n c, .int .i64 t, .int .i64 k] w fun e w' => ∃ r : Int, e = .returned (.int .i64 r) ∧ AtP rs t k r ∧ w' = w := by
  have HN : Hid (rs.length = n) := hn
  have HR : Hid (Rs rwE 4 w a rs) := hr
  clear hn hr
  go_enter Tryz.func107, Tryz.ntmps107
  go_wp2_with fail
  go_loopw [7] (fun i wr => ∃ j : Nat, j ≤ n ∧ i = .int .i64 j ∧ Hid (∀ x ∈ rs.take j, ¬ (x.t = t ∧ x.k = k)) ∧ wr = w) (fun i _ => n - (intOf i).toNat)
  case atStart => exact ⟨0, Nat.zero_le _, rfl, by intro x hx; simp at hx, rfl⟩
  case round =>
    obtain ⟨j, hj, rfl, hf, rfl⟩ := hrel
    by_cases hlt : j < n
    · obtain ⟨x, hx⟩ := at_lt (rs := rs) (i := j) (by rw [HN.out]; exact hlt)
      obtain ⟨b, off, rfl, X'⟩ := HR.out.row hx
      have hjn : (j : Int) < (n : Int) := by omega
      have HX : Hid (rs[j]? = some x) := hx
      have HF : Hid (¬ (x.t = t ∧ x.k = k) → ∀ y ∈ rs.take (j + 1), ¬ (y.t = t ∧ y.k = k)) := fun hne y hy => by
        rw [take_snoc hx] at hy
        rcases List.mem_append.1 hy with h | h
        · exact hf.out y h
        · simp at h; subst h; exact hne
      clear hx hf
      obtain ⟨xt, xk, xv, xs0⟩ := x
      obtain ⟨x0, x1, x2, x3⟩ := X'
      dsimp only at x0 x1 x2 x3
      by_cases h1 : xt = t
      · subst h1
        by_cases h2 : xk = k
        · subst h2
          go_wp2_with fail
          go_ret
          exact ⟨j, rfl, .inr ⟨j, _, rfl, HX.out, rfl, rfl⟩, rfl⟩
        · have HF2 : Hid (∀ y ∈ rs.take (j + 1), ¬ (y.t = xt ∧ y.k = k)) := HF.out (fun h => h2 h.2)
          have d2 : (xk == k) = false := by simpa using h2
          go_wp2_with fail
          go_roundw
          case rel => exact ⟨j + 1, by omega, by go_num, HF2, by simp⟩
          case measure => simp [intOf]; omega
      · have HF2 : Hid (∀ y ∈ rs.take (j + 1), ¬ (y.t = t ∧ y.k = k)) := HF.out (fun h => h1 h.1)
        have d1 : (xt == t) = false := by simpa using h1
        go_wp2_with fail
        go_roundw
        case rel => exact ⟨j + 1, by omega, by go_num, HF2, by simp⟩
        case measure => simp [intOf]; omega
    · have HF2 : Hid (∀ x ∈ rs, ¬ (x.t = t ∧ x.k = k)) := by
        have := hf.out
        rw [List.take_of_length_le (by rw [HN.out]; omega)] at this
        exact this
      have hjn : ¬ (j : Int) < (n : Int) := by omega
      clear hf
      go_wp2_with fail
      go_ret
      exact ⟨-1, rfl, .inl ⟨rfl, HF2.out⟩, rfl⟩

end Go.Proofs.YtpjlpnaamkbicaaGreatDoor

/-
  Rows that rise: plain facts. How long a table's texts may be.
-/
namespace Go.Proofs.YtpjlpnaamkbicaaGreatDoor
open Go.RowKit
set_option linter.unusedVariables false

/-- One row ahead of another. -/
def rLt (a b : Rw) : Prop := a.t < b.t ∨ (a.t = b.t ∧ a.k < b.k)

theorem befB_iff (t k u l : Int) : befB t k u l = true ↔ t < u ∨ (t = u ∧ k < l) := by simp [befB]
theorem rLt.trans {a b c : Rw} (h : rLt a b) (k : rLt b c) : rLt a c := by unfold rLt at *; omega

def rsOk (p : Option Rw) (r : Rw) : Bool := match p with | none => true | some q => rwB q r

theorem rsF_cons (p : Option Rw) (r : Rw) (l : List Rw) : rsF p (r :: l) = if rwF r = 0 then (if rsOk p r = true then rsF (some r) l else 1) else rwF r := rfl

theorem rsF_zero : ∀ (l : List Rw) (p : Option Rw), rsF p l = 0 → (∀ r ∈ l, rwF r = 0) ∧ l.Pairwise rLt ∧ ∀ q, p = some q → ∀ r ∈ l, rLt q r
  | [], _, _ => ⟨by simp, List.Pairwise.nil, by simp⟩
  | r :: l, p, h => by
    rw [rsF_cons] at h
    by_cases h1 : rwF r = 0
    · rw [if_pos h1] at h
      by_cases h2 : rsOk p r = true
      · rw [if_pos h2] at h
        obtain ⟨i1, i2, i3⟩ := rsF_zero l (some r) h
        have i3 := i3 r rfl
        refine ⟨?_, List.pairwise_cons.2 ⟨i3, i2⟩, ?_⟩
        · intro x hx
          rcases List.mem_cons.1 hx with rfl | hx
          · exact h1
          · exact i1 x hx
        · intro q hq x hx
          subst hq
          have hq : rLt q r := (befB_iff _ _ _ _).1 h2
          rcases List.mem_cons.1 hx with rfl | hx
          · exact hq
          · exact hq.trans (i3 x hx)
      · rw [if_neg h2] at h
        exact absurd h (by decide)
    · rw [if_neg h1] at h
      exact absurd h h1

/-- The row of a key. -/
def fR (rs : List Rw) (x y : Int) : Option Rw := rs.find? fun r => decide (r.t = x) && decide (r.k = y)

/-- No two rows of one key. -/
def Uniq (rs : List Rw) : Prop := rs.Pairwise fun a b => ¬ (a.t = b.t ∧ a.k = b.k)

theorem uniq_of {rs : List Rw} (h : rs.Pairwise rLt) : Uniq rs := h.imp fun {a b} h1 h2 => by unfold rLt at h1; omega

theorem uniq_eq {rs : List Rw} (hu : Uniq rs) {i j : Nat} {x y : Rw} (hx : rs[i]? = some x) (hy : rs[j]? = some y) (h : x.t = y.t ∧ x.k = y.k) : i = j := by
  obtain ⟨hi, e1⟩ := List.getElem?_eq_some_iff.1 hx
  obtain ⟨hj, e2⟩ := List.getElem?_eq_some_iff.1 hy
  rcases Nat.lt_trichotomy i j with hl | hl | hl
  · have := List.pairwise_iff_getElem.1 hu i j hi hj hl
    rw [e1, e2] at this; exact absurd h this
  · exact hl
  · have := List.pairwise_iff_getElem.1 hu j i hj hi hl
    rw [e1, e2] at this; exact absurd ⟨h.1.symm, h.2.symm⟩ this

theorem fR_mem {rs : List Rw} {t k : Int} {r : Rw} (h : fR rs t k = some r) : r ∈ rs ∧ r.t = t ∧ r.k = k := by
  unfold fR at h
  have h2 := List.find?_some h
  simp at h2
  exact ⟨List.mem_of_find?_eq_some h, h2.1, h2.2⟩

theorem fR_none {rs : List Rw} {t k : Int} : fR rs t k = none ↔ ∀ x ∈ rs, ¬ (x.t = t ∧ x.k = k) := by
  unfold fR
  rw [List.find?_eq_none]
  simp

/-- What l6At tells, and the row of that key. -/
theorem AtP.f {rs : List Rw} (hu : Uniq rs) {t k r : Int} (h : AtP rs t k r) : (r = -1 ∧ fR rs t k = none) ∨ ∃ (i : Nat) (x : Rw), r = i ∧ rs[i]? = some x ∧ fR rs t k = some x := by
  rcases h with ⟨rfl, h⟩ | ⟨i, x, rfl, hx, e1, e2⟩
  · exact .inl ⟨rfl, fR_none.2 h⟩
  · refine .inr ⟨i, x, rfl, hx, ?_⟩
    cases hf : fR rs t k with
    | none => exact absurd ⟨e1, e2⟩ (fR_none.1 hf x (List.mem_of_getElem? hx))
    | some y =>
      obtain ⟨hm, f1, f2⟩ := fR_mem hf
      obtain ⟨j, hj⟩ := List.getElem?_of_mem hm
      have := uniq_eq hu hx hj ⟨e1.trans f1.symm, e2.trans f2.symm⟩
      subst this
      rw [hx] at hj; exact hj.symm


/-- Rows without a fault. -/
theorem rowsQ_ok {rs : List Rw} (h : rowsQ rs = 0) : rs.length ≤ 60 ∧ Uniq rs ∧ ∀ r ∈ rs, rngB r.t r.k r.v = true := by
  unfold rowsQ at h
  split at h
  · exact absurd h (by decide)
  · obtain ⟨h1, h2, _⟩ := rsF_zero rs none h
    refine ⟨by omega, uniq_of h2, fun r hr => ?_⟩
    have := h1 r hr
    unfold rwF faultI at this
    split at this
    · rename_i hb; exact hb
    · exact absurd this (by decide)
theorem rng_val {t k v : Int} (h : rngB t k v = true) : 0 ≤ v ∧ v ≤ 100000 ∧ 0 ≤ t ∧ t ≤ 3 ∧ 1 ≤ k ∧ k ≤ 99 := by
  simp only [rngB, inW, Bool.and_eq_true, decide_eq_true_eq] at h
  omega

/-- How long a text of a table may be: the Val of the row that tells it. -/
def lonF (rs : List Rw) (t : Int) : Option Int := (fR rs 0 t).map (·.v)
/-- The code of LongestIn behind the rows' own, and its value. -/
def lonQ (rs : List Rw) (t : Int) : Int := if inW t 1 3 = true then (match lonF rs t with | none => 4 | some _ => 0) else 3
def lonV (rs : List Rw) (t : Int) : Int := if inW t 1 3 = true then (lonF rs t).getD 0 else 0
/-- What LongestIn answers. -/
def liQ (rs : List Rw) (t : Int) : Int := if rowsQ rs = 0 then lonQ rs t else rowsQ rs
def liV (rs : List Rw) (t : Int) : Int := if rowsQ rs = 0 then lonV rs t else 0
theorem lonF_val {rs : List Rw} (h : rowsQ rs = 0) {t v : Int} (hv : lonF rs t = some v) : 0 ≤ v ∧ v ≤ 100000 := by
  unfold lonF at hv
  cases hf : fR rs 0 t with
  | none => rw [hf] at hv; simp at hv
  | some r =>
    rw [hf] at hv
    simp at hv
    have := rng_val ((rowsQ_ok h).2.2 r (fR_mem hf).1)
    omega

end Go.Proofs.YtpjlpnaamkbicaaGreatDoor
