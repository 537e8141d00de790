/-
  An answer of transactions: compared, marked, looked at again; what NoteChange tells is little.
-/
import Derived.Test.YtmboclfgldgefaaNCNcp
import Derived.Test.YtmboclfgldgefaaNCMtt

namespace Go.Proofs.Ytmboclfgldgefaa
open Go.RowKit Go.Maps
set_option linter.unusedVariables false
set_option maxRecDepth 20000

/-- Two cells of an answer of transactions. -/
structure E2 (w : World) (b : Nat) (p : Int) (x : Value) : Prop where
  c0 : w.cell? ⟨b, 0, none⟩ = some (.int .i64 p)
  c1 : w.cell? ⟨b, 1, none⟩ = some x
theorem E2.lt {w : World} {b : Nat} {p : Int} {x : Value} (h : E2 w b p x) : b < w.heap.size := World.block_lt_of_cell? w _ h.c0
theorem E2.below {w w' : World} {b B : Nat} {p : Int} {x : Value} (h : E2 w b p x) (hb : Below B w w') (hl : b < B) : E2 w' b p x :=
  ⟨(hb.cell (p := ⟨b, 0, none⟩) hl).trans h.c0, (hb.cell (p := ⟨b, 1, none⟩) hl).trans h.c1⟩

set_option maxHeartbeats 4000000 in
theorem eqTxsResult_same (q : Int) (a a' : Option Addr) (xs : List TxV) (n c d : Nat) (w : World) (hn : xs.length = n) (hm : n ≤ 9223372036854775807) (hs : ∀ x ∈ xs, TxOk 1048576 x) (hx : TxRd w a xs) (hx' : TxRd w a' xs) :
    Calls Try.prog 29 #[.agg #[.int .i64 q, .slice a n c], .agg #[.int .i64 q, .slice a' n d]] w fun e w' => e = .returned (.bool true) ∧ Below w.heap.size w w' := by
  have HE2 : Hid (∀ V, Below w.heap.size w V → Calls Try.prog 24 #[.slice a n c, .slice a' n d] V fun e w' => e = .returned (.bool true) ∧ Below V.heap.size V w') := fun V hV => eqTxS_same a a' xs n c d V hn hs hm (hx.below hV (Nat.le_refl _)) (hx'.below hV (Nat.le_refl _))
  clear hn hs hx hx'
  go_enter Try.func29, Try.ntmps29
  go_upto_region 1 with (fail)
  generalize hY : World.alloc _ _ = Y
  have g : Below w.heap.size w Y := by rw [← hY]; go_grown
  have A : E2 Y w.heap.size q (.slice a n c) := by rw [← hY]; exact ⟨by simp [go_sem], by simp [go_sem]⟩
  have B : E2 Y (w.heap.size + 1) q (.slice a' n d) := by rw [← hY]; exact ⟨by simp [go_sem], by simp [go_sem]⟩
  clear hY
  obtain ⟨ab, hab⟩ : ∃ ab, w.heap.size = ab := ⟨_, rfl⟩
  obtain ⟨bb, hbb⟩ : ∃ bb, ab + 1 = bb := ⟨_, rfl⟩
  rw [hab] at A B
  rw [hbb] at B
  simp only [hab]
  try simp only [hbb]
  have HAB : Hid (w.heap.size = ab) := hab
  clear hab hbb
  obtain ⟨a0, a1⟩ := A
  obtain ⟨b0, b1⟩ := B
  have hcon := HE2.out Y g
  go_wp2_with fail
  refine hcon.mono ?_
  rintro e w2 ⟨rfl, g2⟩
  have g := g.trans (g2.mono g.size)
  clear hcon g2 a0 a1 b0 b1
  go_wp2_with fail
  go_ret
  exact ⟨rfl, g⟩

set_option maxHeartbeats 4000000 in
theorem markTxsResult_any (q : Int) (a : Option Addr) (B T : Nat) (xs : List TxV) (n c k : Nat) (w : World) (hn : xs.length = n) (hm : n ≤ 1048576) (hs : ∀ x ∈ xs, TxOk 1048576 x) (hk0 : 1 ≤ k) (hk1 : k + cS xs ≤ 40000000) (hB : B ≤ w.heap.size) (ha : OwZ B T w a xs) :
    Calls Try.prog 31 #[.agg #[.int .i64 q, .slice a n c], .int .i64 k] w fun e w' => e = .returned (.int .i64 ((k + cS xs : Nat) : Int)) ∧ Turned B T w w' ∧ OwZ B T w' a (mkTs k xs) := by
  have H1 : Hid (∀ V, Below w.heap.size w V → Calls Try.prog 30 #[.slice a n c, .int .i64 k] V fun e w' => e = .returned (.int .i64 ((k + cS xs : Nat) : Int)) ∧ Turned B T V w' ∧ OwZ B T w' a (mkTs k xs)) := fun V hV => markTxS_to a B T xs n c k V hn hm hs hk0 hk1 (Nat.le_trans hB hV.size) (ha.below hV)
  clear hn hs ha hk1 hB
  generalize hK : k + cS xs = K at H1 ⊢
  clear hK
  go_enter Try.func31, Try.ntmps31
  go_upto_region 1 with (fail)
  generalize hY : World.alloc _ _ = Y
  have g : Below w.heap.size w Y := by rw [← hY]; go_grown
  have A : E2 Y w.heap.size q (.slice a n c) := by rw [← hY]; exact ⟨by simp [go_sem], by simp [go_sem]⟩
  clear hY
  obtain ⟨ab, hab⟩ : ∃ ab, w.heap.size = ab := ⟨_, rfl⟩
  rw [hab] at A
  simp only [hab]
  have HAB : Hid (w.heap.size = ab) := hab
  clear hab
  obtain ⟨a0, a1⟩ := A
  have hcon := H1.out Y g
  go_wp2_with fail
  refine hcon.mono ?_
  rintro e w2 ⟨rfl, g2, o2⟩
  have g := (Turned.ofBelow g).trans g2
  clear hcon g2 a0 a1
  have HO : Hid (OwZ B T w2 a (mkTs k xs)) := o2
  clear o2
  go_wp2_with fail
  go_ret
  exact ⟨rfl, g, HO.out⟩

set_option maxHeartbeats 4000000 in
theorem heldTxsResult_any (q : Int) (a : Option Addr) (xs : List TxV) (n c k : Nat) (w : World) (hn : xs.length = n) (hm : n ≤ 1000) (hs : ∀ x ∈ xs, x.u.length ≤ 1000 ∧ x.m.length ≤ 1000 ∧ x.l.length ≤ 1000) (hk0 : 1 ≤ k) (hk1 : k + cS xs ≤ 900000) (ha : TxRd w a (mkTs k xs)) :
    Calls Try.prog 32 #[.agg #[.int .i64 q, .slice a n c], .int .i64 k] w fun e w' => e = .returned (.int .i64 ((k + cS xs : Nat) : Int)) ∧ Below w.heap.size w w' := by
  have H1 : Hid (∀ V, Below w.heap.size w V → Calls Try.prog 85 #[.slice a n c, .int .i64 k] V fun e w' => e = .returned (.int .i64 ((k + cS xs : Nat) : Int)) ∧ Below V.heap.size V w') := fun V hV => heldTxS_any a xs n c k V hn hm hs hk0 hk1 (ha.below hV (Nat.le_refl _))
  clear hn hs ha hk1
  generalize hK : k + cS xs = K at H1 ⊢
  clear hK
  have hK0 : ¬ ((K : Nat) : Int) < 0 := by omega
  go_enter Try.func32, Try.ntmps32
  go_upto_region 1 with (fail)
  generalize hY : World.alloc _ _ = Y
  have g : Below w.heap.size w Y := by rw [← hY]; go_grown
  have A : E2 Y w.heap.size q (.slice a n c) := by rw [← hY]; exact ⟨by simp [go_sem], by simp [go_sem]⟩
  clear hY
  obtain ⟨ab, hab⟩ : ∃ ab, w.heap.size = ab := ⟨_, rfl⟩
  rw [hab] at A
  simp only [hab]
  have HAB : Hid (w.heap.size = ab) := hab
  clear hab
  obtain ⟨a0, a1⟩ := A
  have hcon := H1.out Y g
  go_wp2_with fail
  refine hcon.mono ?_
  rintro e w2 ⟨rfl, g2⟩
  have g := g.trans (g2.mono g.size)
  clear hcon g2 a0 a1
  go_wp2_with fail
  go_ret
  exact ⟨rfl, g⟩

theorem cntU_ge : ∀ {xs : List TxV} {x : TxV}, x ∈ xs → x.u.length ≤ cntU xs
  | [], _, h => by simp at h
  | y :: ys, x, h => by
    have e : cntU (y :: ys) = y.u.length + cntU ys := by simp [cntU]
    rw [e]
    rcases List.mem_cons.1 h with rfl | h
    · omega
    · have := cntU_ge h; omega
theorem cS_few : ∀ {xs : List TxV} {m : Nat}, (∀ x ∈ xs, cX x ≤ m) → cS xs ≤ xs.length * m
  | [], m, _ => by simp [cS]
  | y :: ys, m, h => by
    have e : cS (y :: ys) = cX y + cS ys := by simp [cS]
    rw [e, List.length_cons, Nat.add_mul, Nat.one_mul]
    have h1 := h y (List.mem_cons_self ..)
    have h2 := cS_few (fun x hx => h x (List.mem_cons_of_mem _ hx))
    omega
/-- Transactions without a fault are small. -/
theorem txs_small {xs : List TxV} (h : txsQ xs = 0) : xs.length ≤ 4 ∧ ∀ x ∈ xs, x.u.length ≤ 12 ∧ x.m.length ≤ 8 ∧ x.l.length ≤ 12 := by
  obtain ⟨h4, hall, hap, hc⟩ := txs_sound h
  refine ⟨h4, fun x hx => ?_⟩
  have h1 := cntU_ge hx
  obtain ⟨i, hi, rfl⟩ := List.mem_iff_getElem.1 hx
  have h2 := tx_few (txs_at hi (hall i hi)).2
  exact ⟨by omega, h2⟩
theorem ncL_small {xs : List TxV} {tx : Int} {c : Chg} : (ncL xs tx c).length ≤ 4 ∧ ∀ x ∈ ncL xs tx c, x.u.length ≤ 13 ∧ x.m.length ≤ 8 ∧ x.l.length ≤ 13 := by
  unfold ncL
  split
  · rename_i h0
    unfold ncQ at h0
    split at h0
    · rename_i ht
      split at h0
      · cases h0
      · rename_i ha
        obtain ⟨h4, hall⟩ := txs_small ht
        obtain ⟨j, h1, h2, h3⟩ := nc_at ha
        have hm := hall _ (List.mem_of_getElem? h2)
        refine ⟨by unfold ncR; rw [List.length_set]; exact h4, fun x hx => ?_⟩
        unfold ncR at hx
        rcases List.mem_or_eq_of_mem_set hx with hx | rfl
        · obtain ⟨a, b, c⟩ := hall x hx
          exact ⟨by omega, b, by omega⟩
        · have hw := withL_len (ncX xs tx).l (ncK c)
          refine ⟨?_, hm.2.1, by show (withL _ _).length ≤ 13; omega⟩
          show ((ncX xs tx).u ++ [c]).length ≤ 13
          rw [List.length_append]
          have := hm.1
          simp
          omega
    · rename_i ht
      exact absurd h0 ht
  · exact ⟨Nat.zero_le _, fun x hx => by simp at hx⟩
theorem ncL_cS {xs : List TxV} {tx : Int} {c : Chg} : cS (ncL xs tx c) ≤ 700 := by
  obtain ⟨h4, hall⟩ := @ncL_small xs tx c
  have h := cS_few (xs := ncL xs tx c) (m := 165) (fun x hx => by have := hall x hx; unfold cX; omega)
  omega
theorem ncL_ok {xs : List TxV} {tx : Int} {c : Chg} (hs : ∀ x ∈ xs, TxOk 1048576 x) (hb : c.b.s.size ≤ 1048576) (ha : c.a.s.size ≤ 1048576) : ∀ x ∈ ncL xs tx c, TxOk 1048576 x := by
  intro x hx
  obtain ⟨h4, hall⟩ := @ncL_small xs tx c
  obtain ⟨k1, k2, k3⟩ := hall x hx
  refine ⟨by omega, ?_, by omega, by omega⟩
  unfold ncL at hx
  split at hx
  · rename_i h0
    unfold ncQ at h0
    split at h0
    · rename_i ht
      split at h0
      · cases h0
      · rename_i hat
        obtain ⟨j, h1, h2, h3⟩ := nc_at hat
        unfold ncR at hx
        rcases List.mem_or_eq_of_mem_set hx with hx | rfl
        · exact (hs x hx).2.1
        · intro d hd
          rcases List.mem_append.1 hd with hd | hd
          · exact (hs _ (List.mem_of_getElem? h2)).2.1 d hd
          · rw [List.mem_singleton.1 hd]
            exact ⟨hb, ha⟩
    · rename_i ht
      exact absurd h0 ht
  · simp at hx

end Go.Proofs.Ytmboclfgldgefaa
