/-
  The model's CheckOp.
-/
import Derived.Test.YtpjlpnaamkbicaaGreatDoorCKCkc
import Derived.Test.YtpjlpnaamkbicaaGreatDoorCKOpi
import Derived.Test.YtpjlpnaamkbicaaGreatDoorCKTxm
import Derived.Test.YtpjlpnaamkbicaaGreatDoorCKTxn

namespace Go.Proofs.YtpjlpnaamkbicaaGreatDoor
open Go.RowKit Go.Maps
set_option linter.unusedVariables false
set_option maxRecDepth 20000

/-- What CheckOp tells. -/
def ckV (rs : List Rw) (xs : List TxV) (kd tx t k v : Int) (s : ByteArray) (mk : Int) : Value :=
  if rowsQ rs = 0 then (if txsQ xs = 0 then (if opQ kd tx t k v s mk = 0 then ckC rs xs kd tx t k v s mk else crVal (opQ kd tx t k v s mk) false zC) else crVal (txsQ xs) false zC) else crVal (rowsQ rs) false zC
theorem ckC_form (rs : List Rw) (xs : List TxV) (kd tx t k v : Int) (s : ByteArray) (mk : Int) : ∃ q tn c, ckC rs xs kd tx t k v s mk = crVal q tn c := by
  unfold ckC
  repeat' split
  all_goals first | exact ⟨_, _, _, rfl⟩ | exact ckR_form rs xs kd tx t k v s
theorem opQ_zero {kd tx t k v : Int} {s : ByteArray} {mk : Int} (h : opQ kd tx t k v s mk = 0) : inW kd 1 9 = true ∧ ((kd = 2 ∨ kd = 3 ∨ kd = 4) → k ≠ 0 ∧ rwF ⟨t, k, v, s⟩ = 0) := by
  unfold opQ at h
  split at h
  · rename_i hF
    refine ⟨?_, fun hk => ?_⟩
    · unfold opF at hF
      simp only [Bool.and_eq_true] at hF
      exact hF.1.1.1
    · split at h
      · cases h
      · split at h
        · have h2 : rwF ⟨t, k, v, s⟩ = 0 := h
          have h3 := rwF_zero h2
          exact ⟨by have := h3.2.1; dsimp only at this; omega, h2⟩
        · rename_i h3
          refine absurd ?_ h3
          unfold inW
          simp
          omega
  · cases h
theorem txs_four {xs : List TxV} (h : txsQ xs = 0) : xs.length ≤ 4 := by
  unfold txsQ at h
  split at h
  · cases h
  · omega

set_option maxHeartbeats 16000000 in
theorem specCheckOp_any (ra : Option Addr) (rs : List Rw) (rn rc : Nat) (a : Option Addr) (xs : List TxV) (n c : Nat) (kd tx t k v : Int) (s : ByteArray) (mk : Int) (w : World) (hrn : rs.length = rn) (hrm : rn ≤ 1048576) (hrs : ∀ r ∈ rs, r.s.size ≤ 1048576) (hr : Rs rwE 4 w ra rs) (hn : xs.length = n) (hm : n ≤ 1048576) (hs : ∀ x ∈ xs, TxOk 1048576 x) (hx : TxRd w a xs) (hss : s.size ≤ 1048576) :
    Calls Tryz.prog 7 #[.slice ra rn rc, .slice a n c, .agg #[.int .i64 kd, .int .i64 tx, .int .i64 t, .int .i64 k, .int .i64 v, .string s, .int .i64 mk]] w fun e w' => e = .returned (ckV rs xs kd tx t k v s mk) ∧ Below w.heap.size w w' := by
  have HRf : Hid (∀ V, Below w.heap.size w V → Calls Tryz.prog 17 #[.slice ra rn rc] V fun e w' => e = .returned (.int .i64 (rowsQ rs)) ∧ Below V.heap.size V w') := fun V hV => l6Rows_any ra rs rn rc V hrn (by omega) (fun r hr => Nat.le_trans (hrs r hr) (by decide)) (hr.below hV (Nat.le_refl _))
  have HF : Hid (∀ V, Below w.heap.size w V → Calls Tryz.prog 19 #[.slice a n c] V fun e w' => e = .returned (.int .i64 (txsQ xs)) ∧ Below V.heap.size V w') := fun V hV => l10Fault_any a xs n c V hn hm hs (hx.below hV (Nat.le_refl _))
  have HOp : Hid (∀ V b, OpAt V b kd tx t k v s mk → Calls Tryz.prog 20 #[.pointer (some ⟨b, 0, none⟩)] V fun e w' => e = .returned (.int .i64 (opQ kd tx t k v s mk)) ∧ Below V.heap.size V w') := fun V b hO => (l10Op_any kd tx t k v s mk b V hO (Nat.le_trans hss (by decide))).mono fun e w' h => ⟨h.1, by rw [h.2]; exact Below.refl _ _⟩
  have HCk : Hid (∀ V b, Below w.heap.size w V → OpAt V b kd tx t k v s mk → rowsQ rs = 0 → txsQ xs = 0 → opQ kd tx t k v s mk = 0 → Calls Tryz.prog 21 #[.slice ra rn rc, .slice a n c, .pointer (some ⟨b, 0, none⟩)] V fun e w' => e = .returned (ckC rs xs kd tx t k v s mk) ∧ Below V.heap.size V w') := fun V b hV hO h1 h2 h3 => by
    obtain ⟨h4, h5⟩ := opQ_zero h3
    have h6 := rowsQ_ok h1
    exact l10Check_any ra rs rn rc a xs n c b kd tx t k v s mk V hrn (by rw [← hrn]; exact h6.1) h6.2.1 hrs (hr.below hV (Nat.le_refl _)) hn (by rw [← hn]; exact txs_four h2) hs (hx.below hV (Nat.le_refl _)) hO h4 (fun h => (h5 h).1) hss
  have HBad : Hid (∀ (q : Int) V, Calls Tryz.prog 18 #[.int .i64 q] V fun e w' => e = .returned (.agg #[.int .i64 q, .bool false, .bool false, .int .i64 0, .int .i64 0, .int .i64 0, .string ⟨#[]⟩, .bool false, .int .i64 0, .int .i64 0, .int .i64 0, .string ⟨#[]⟩]) ∧ Below V.heap.size V w') := fun q V => l10Bad_any q V
  have HE : Hid (ckV rs xs kd tx t k v s mk = if rowsQ rs = 0 then (if txsQ xs = 0 then (if opQ kd tx t k v s mk = 0 then ckC rs xs kd tx t k v s mk else crVal (opQ kd tx t k v s mk) false zC) else crVal (txsQ xs) false zC) else crVal (rowsQ rs) false zC) := rfl
  have HFm := ckC_form rs xs kd tx t k v s mk
  obtain ⟨R, hR⟩ : ∃ R, ckV rs xs kd tx t k v s mk = R := ⟨_, rfl⟩
  rw [hR] at HE ⊢
  clear hrn hrm hrs hr hn hm hs hx hss hR
  generalize ckC rs xs kd tx t k v s mk = cv at HCk HE HFm
  obtain ⟨qq, tn, ⟨cw, ⟨bt, bk, bv, bs⟩, ci, ⟨at2, ak, av, sa⟩⟩, hcv⟩ := HFm
  subst hcv
  dsimp only [crVal] at HCk
  generalize rowsQ rs = k1 at HRf HCk HE
  generalize txsQ xs = k2 at HF HCk HE
  generalize opQ kd tx t k v s mk = k3 at HOp HCk HE
  have HCk2 : Hid (∀ V b, Below w.heap.size w V → OpAt V b kd tx t k v s mk → k1 = 0 → k2 = 0 → k3 = 0 → Calls Tryz.prog 21 #[.slice ra rn rc, .slice a n c, .pointer (some ⟨b, 0, none⟩)] V fun e w' => e = .returned (.agg #[.int .i64 qq, .bool tn, .bool cw, .int .i64 bt, .int .i64 bk, .int .i64 bv, .string bs, .bool ci, .int .i64 at2, .int .i64 ak, .int .i64 av, .string sa]) ∧ Below V.heap.size V w') := HCk
  clear HCk
  go_enter Tryz.func7, Tryz.ntmps7
  go_upto_region 1 with (fail)
  generalize hY : World.alloc _ _ = Y
  have gY : Below w.heap.size w Y := by rw [← hY]; go_grown
  have A : OpAt Y w.heap.size kd tx t k v s mk := by rw [← hY]; exact ⟨by simp [go_sem], by simp [go_sem], by simp [go_sem], by simp [go_sem], by simp [go_sem], by simp [go_sem], by simp [go_sem]⟩
  have O : R12 Y (w.heap.size + 1) := by rw [← hY]; exact ⟨by simp [go_sem], by simp [go_sem], by simp [go_sem], by simp [go_sem], by simp [go_sem], by simp [go_sem], by simp [go_sem], by simp [go_sem], by simp [go_sem], by simp [go_sem], by simp [go_sem], by simp [go_sem], by simp [go_sem], by simp [go_sem], by simp [go_sem], by simp [go_sem], by simp [go_sem], by simp [go_sem], by simp [go_sem], by simp [go_sem], by simp [go_sem], by simp [go_sem], by simp [go_sem], by simp [go_sem]⟩
  clear hY
  obtain ⟨ab, hab⟩ : ∃ ab, w.heap.size = ab := ⟨_, rfl⟩
  obtain ⟨ob, hob⟩ : ∃ ob, ab + 1 = ob := ⟨_, rfl⟩
  have hwo : w.heap.size ≤ ob := by omega
  rw [hab] at A O
  rw [hob] at O
  simp only [hab]
  try simp only [hob]
  have HAB : Hid (w.heap.size = ab) := hab
  clear hab hob
  have lA := A.lt
  have lO := O.lt
  have HO : Hid (∀ V, Below Y.heap.size Y V → OpAt V ab kd tx t k v s mk) := fun V hV => A.below hV lA
  have HOb : Hid (∀ V, Below Y.heap.size Y V → R12 V ob) := fun V hV => O.below hV lO
  clear A O
  have hcon := HRf.out Y gY
  go_wp2_with fail
  refine hcon.mono ?_
  rintro e w1 ⟨rfl, g1⟩
  have g := gY.trans (g1.mono gY.size)
  have gy := g1
  clear hcon g1 HRf
  by_cases h1 : k1 = 0
  case neg =>
    have d1 : (k1 != 0) = true := by simpa using h1
    have HV : Hid (R = .agg #[.int .i64 k1, .bool false, .bool false, .int .i64 0, .int .i64 0, .int .i64 0, .string ⟨#[]⟩, .bool false, .int .i64 0, .int .i64 0, .int .i64 0, .string ⟨#[]⟩]) := by show _ = _; rw [HE.out, if_neg h1]; rfl
    clear HE HF HOp HCk2 HO
    have hcon := HBad.out k1 w1
    go_wp2_with fail
    refine hcon.mono ?_
    rintro e w9 ⟨rfl, g9⟩
    have g := g.trans (g9.mono g.size)
    have gy := gy.trans (g9.mono gy.size)
    clear hcon g9
    obtain ⟨z0, z1, z2, z3, z4, z5, z6, z7, z8, z9, z10, z11, f0, f1, f2, f3, f4, f5, f6, f7, f8, f9, f10, f11⟩ := HOb.out w9 gy
    go_wp2_with fail
    refine bodyPost_ret (v := .agg #[.int .i64 k1, .bool false, .bool false, .int .i64 0, .int .i64 0, .int .i64 0, .string ⟨#[]⟩, .bool false, .int .i64 0, .int .i64 0, .int .i64 0, .string ⟨#[]⟩]) (by simp [results, Tryz.results7, go_sem, *]) rfl ?_
    exact ⟨by rw [HV.out], by go_grown⟩
  have d1 : (k1 != 0) = false := by simpa using h1
  have hcon := HF.out w1 g
  clear HF
  go_wp2_with fail
  refine hcon.mono ?_
  rintro e w2 ⟨rfl, g1⟩
  have g := g.trans (g1.mono g.size)
  have gy := gy.trans (g1.mono gy.size)
  clear hcon g1
  by_cases h2 : k2 = 0
  case neg =>
    have d2 : (k2 != 0) = true := by simpa using h2
    have HV : Hid (R = .agg #[.int .i64 k2, .bool false, .bool false, .int .i64 0, .int .i64 0, .int .i64 0, .string ⟨#[]⟩, .bool false, .int .i64 0, .int .i64 0, .int .i64 0, .string ⟨#[]⟩]) := by show _ = _; rw [HE.out, if_pos h1, if_neg h2]; rfl
    clear HE HOp HCk2 HO
    have hcon := HBad.out k2 w2
    go_wp2_with fail
    refine hcon.mono ?_
    rintro e w9 ⟨rfl, g9⟩
    have g := g.trans (g9.mono g.size)
    have gy := gy.trans (g9.mono gy.size)
    clear hcon g9
    obtain ⟨z0, z1, z2, z3, z4, z5, z6, z7, z8, z9, z10, z11, f0, f1, f2, f3, f4, f5, f6, f7, f8, f9, f10, f11⟩ := HOb.out w9 gy
    go_wp2_with fail
    refine bodyPost_ret (v := .agg #[.int .i64 k2, .bool false, .bool false, .int .i64 0, .int .i64 0, .int .i64 0, .string ⟨#[]⟩, .bool false, .int .i64 0, .int .i64 0, .int .i64 0, .string ⟨#[]⟩]) (by simp [results, Tryz.results7, go_sem, *]) rfl ?_
    exact ⟨by rw [HV.out], by go_grown⟩
  have d2 : (k2 != 0) = false := by simpa using h2
  have hcon := HOp.out w2 ab (HO.out w2 gy)
  clear HOp
  go_wp2_with fail
  refine hcon.mono ?_
  rintro e w3 ⟨rfl, g1⟩
  have g := g.trans (g1.mono g.size)
  have gy := gy.trans (g1.mono gy.size)
  clear hcon g1
  by_cases h3 : k3 = 0
  case neg =>
    have d3 : (k3 != 0) = true := by simpa using h3
    have HV : Hid (R = .agg #[.int .i64 k3, .bool false, .bool false, .int .i64 0, .int .i64 0, .int .i64 0, .string ⟨#[]⟩, .bool false, .int .i64 0, .int .i64 0, .int .i64 0, .string ⟨#[]⟩]) := by show _ = _; rw [HE.out, if_pos h1, if_pos h2, if_neg h3]; rfl
    clear HE HCk2 HO
    have hcon := HBad.out k3 w3
    go_wp2_with fail
    refine hcon.mono ?_
    rintro e w9 ⟨rfl, g9⟩
    have g := g.trans (g9.mono g.size)
    have gy := gy.trans (g9.mono gy.size)
    clear hcon g9
    obtain ⟨z0, z1, z2, z3, z4, z5, z6, z7, z8, z9, z10, z11, f0, f1, f2, f3, f4, f5, f6, f7, f8, f9, f10, f11⟩ := HOb.out w9 gy
    go_wp2_with fail
    refine bodyPost_ret (v := .agg #[.int .i64 k3, .bool false, .bool false, .int .i64 0, .int .i64 0, .int .i64 0, .string ⟨#[]⟩, .bool false, .int .i64 0, .int .i64 0, .int .i64 0, .string ⟨#[]⟩]) (by simp [results, Tryz.results7, go_sem, *]) rfl ?_
    exact ⟨by rw [HV.out], by go_grown⟩
  have d3 : (k3 != 0) = false := by simpa using h3
  have HV : Hid (R = .agg #[.int .i64 qq, .bool tn, .bool cw, .int .i64 bt, .int .i64 bk, .int .i64 bv, .string bs, .bool ci, .int .i64 at2, .int .i64 ak, .int .i64 av, .string sa]) := by show _ = _; rw [HE.out, if_pos h1, if_pos h2, if_pos h3]; rfl
  have hcon := HCk2.out w3 ab g (HO.out w3 gy) h1 h2 h3
  clear HCk2 HE HBad h1 h2 h3 HO
  go_wp2_with fail
  refine hcon.mono ?_
  rintro e w9 ⟨rfl, g9⟩
  have g := g.trans (g9.mono g.size)
  have gy := gy.trans (g9.mono gy.size)
  clear hcon g9
  obtain ⟨z0, z1, z2, z3, z4, z5, z6, z7, z8, z9, z10, z11, f0, f1, f2, f3, f4, f5, f6, f7, f8, f9, f10, f11⟩ := HOb.out w9 gy
  go_wp2_with fail
  refine bodyPost_ret (v := .agg #[.int .i64 qq, .bool tn, .bool cw, .int .i64 bt, .int .i64 bk, .int .i64 bv, .string bs, .bool ci, .int .i64 at2, .int .i64 ak, .int .i64 av, .string sa]) (by simp [results, Tryz.results7, go_sem, *]) rfl ?_
  exact ⟨by rw [HV.out], by go_grown⟩

end Go.Proofs.YtpjlpnaamkbicaaGreatDoor

/-
  The program's keysOf, its keys told.
-/
namespace Go.Proofs.YtpjlpnaamkbicaaGreatDoor
open Go.RowKit Go.Maps
set_option linter.unusedVariables false
set_option maxRecDepth 20000

set_option maxHeartbeats 8000000 in
theorem keysOf_own (ra : Option Addr) (rs : List Rw) (rn rc : Nat) (a : Option Addr) (xs : List TxV) (n c : Nat) (w : World) (hrn : rs.length = rn) (hrm : rn ≤ 1048576) (hrr : Rs rwE 4 w ra rs) (hn : xs.length = n) (hm : n ≤ 4) (hs : ∀ x ∈ xs, TxOk 1048576 x) (hr : TxRd w a xs) :
    Calls Tryz.prog 101 #[.slice ra rn rc, .slice a n c] w fun e w' => ∃ a' c', e = .returned (.slice a' (allRK rs xs).length c') ∧ Below w.heap.size w w' ∧ w'.ownsRow w.heap.size 97 2 (.slice a' (allRK rs xs).length c') (allRK rs xs).length (flat kyE (allRK rs xs)) := by
  have HRn : Hid (rs.length = rn) := hrn
  have HRr : Hid (Rs rwE 4 w ra rs) := hrr
  have HN : Hid (xs.length = n) := hn
  have HR : Hid (TxRd w a xs) := hr
  have HS : Hid (∀ x ∈ xs, TxOk 1048576 x) := hs
  have hcb : ∀ j, cntL (xs.take j) ≤ 4 * 1048576 := fun j => by
    have h1 := cntL_le (xs := xs.take j) (m := 1048576) (fun y hy => (hs y (List.mem_of_mem_take hy)).2.2.2)
    have h2 : (xs.take j).length ≤ 4 := by rw [List.length_take]; omega
    exact Nat.le_trans h1 (Nat.mul_le_mul_right 1048576 h2)
  have HCb : Hid (∀ j, (allRK rs (xs.take j)).length ≤ 8000000) := fun j => Nat.le_trans (allRK_len rs (xs.take j)) (by have := hcb j; omega)
  clear hrn hrr hn hr hs hcb
  go_enter Tryz.func101, Tryz.ntmps101
  go_upto_region 3 with (fail)
  go_loopw [12, 5] (fun i v wr => ∃ (j : Nat) (a' : Option Addr) (c' m : Nat), j ≤ rn ∧ i = .int .i64 j ∧ v = .slice a' m c' ∧ Hid ((rowK (rs.take j)).length = m) ∧ Below w.heap.size w wr ∧ wr.ownsRow w.heap.size 97 2 (.slice a' m c') (rowK (rs.take j)).length (flat kyE (rowK (rs.take j)))) (fun i _ _ => rn - (intOf i).toNat)
  case atStart => exact ⟨0, none, 0, 0, Nat.zero_le _, rfl, rfl, rfl, Below.refl _ _, ownsRow_nil _ _ _ _⟩
  case round =>
    obtain ⟨j, a', c', m, hj, rfl, rfl, hmm, g, ho⟩ := hrel
    by_cases hlt : j < rn
    · have hjn : (j : Int) < (rn : Int) := by omega
      obtain ⟨x, hx⟩ := at_lt (rs := rs) (i := j) (by rw [HRn.out]; exact hlt)
      obtain ⟨b, off, rfl, X0⟩ := HRr.out.row hx
      have X := X0.below g (World.block_lt_of_cell? w _ X0.c0)
      have HK : Hid (rowK (rs.take (j + 1)) = withL (rowK (rs.take j)) (kyR x)) := rowK_step hx
      have hml : m ≤ 10000000 := by
        have h1 := rowK_len (rs.take j)
        have h2 := hmm.out
        rw [List.length_take] at h1
        omega
      clear hx X0
      generalize rowK (rs.take j) = M at hmm ho HK
      obtain ⟨xt, xk, xv, xs'⟩ := x
      obtain ⟨x0, x1, x2, x3⟩ := X
      dsimp only at x0 x1 x2 x3
      have HK : Hid (rowK (rs.take (j + 1)) = withL M ⟨xt, xk⟩) := HK.out
      go_upto_region 5 with (fail)
      generalize hY : World.alloc _ _ = Y7
      have g7 : Below wr.heap.size wr Y7 := by rw [← hY]; go_grown
      have z0 : Y7.cell? ⟨wr.heap.size, 0, none⟩ = some (.int .i64 xt) := by rw [← hY]; simp [go_sem]
      have z1 : Y7.cell? ⟨wr.heap.size, 1, none⟩ = some (.int .i64 xk) := by rw [← hY]; simp [go_sem]
      have z2 : Y7.cell? ⟨wr.heap.size, 2, none⟩ = some (.int .i64 xv) := by rw [← hY]; simp [go_sem]
      have z3 : Y7.cell? ⟨wr.heap.size, 3, none⟩ = some (.string xs') := by rw [← hY]; simp [go_sem]
      have ho := ownsRow_below ho g7
      have g := g.trans (g7.mono g.size)
      clear hY x0 x1 x2 x3 g7
      generalize wr.heap.size = kb at z0 z1 z2 z3 ⊢
      go_wp2_with fail
      refine (keyOf_any xt xk xv xs' _).mono ?_
      rintro e W0 ⟨rfl, g0⟩
      have ho := ownsRow_below ho g0
      have g := g.trans (g0.mono g.size)
      clear g0 z0 z1 z2 z3
      have hcon := with_any w a' M m c' xt xk W0 hmm.out hml g ho
      go_wp2_with fail
      refine hcon.mono ?_
      rintro e W1 ⟨a2, c2, rfl, g2, ho2, -, -⟩
      rw [← HK.out] at ho2 ⊢
      clear hcon ho g hmm
      obtain ⟨m2, hm2⟩ : ∃ m2, (rowK (rs.take (j + 1))).length = m2 := ⟨_, rfl⟩
      have HM2 : Hid ((rowK (rs.take (j + 1))).length = m2) := hm2
      have HO : Hid (W1.ownsRow w.heap.size 97 2 (.slice a2 m2 c2) (rowK (rs.take (j + 1))).length (flat kyE (rowK (rs.take (j + 1))))) := by show World.ownsRow _ _ _ _ _ _ _; rw [← hm2]; exact ho2
      rw [hm2]
      clear hm2 ho2 HK
      go_wp2_with fail
      go_roundw
      case rel => exact ⟨j + 1, a2, c2, m2, by omega, by go_num, rfl, HM2, g2, HO.out⟩
      case measure => simp [intOf]; omega
    · have e : j = rn := by omega
      subst e
      have HE : Hid (rowK (rs.take j) = allRK rs (xs.take 0)) := by show _ = _; rw [List.take_of_length_le (by rw [HRn.out]; exact Nat.le_refl _)]; rfl
      rw [HE.out] at hmm ho
      clear HE
      go_upto_region 8 with (fail)
      go_loopw [23, 5] (fun i v wr => ∃ (j : Nat) (a' : Option Addr) (c' m : Nat), j ≤ n ∧ i = .int .i64 j ∧ v = .slice a' m c' ∧ Hid ((allRK rs (xs.take j)).length = m) ∧ Below w.heap.size w wr ∧ wr.ownsRow w.heap.size 97 2 (.slice a' m c') (allRK rs (xs.take j)).length (flat kyE (allRK rs (xs.take j)))) (fun i _ _ => n - (intOf i).toNat)
      case atStart => exact ⟨0, a', c', m, Nat.zero_le _, rfl, rfl, hmm, g, ho⟩
      case round =>
        clear g ho hmm
        obtain ⟨i, a3, c3', m3, hi, rfl, rfl, hmm, g, ho⟩ := hrel
        by_cases hlt2 : i < n
        · have hin : (i : Int) < (n : Int) := by omega
          obtain ⟨x, hx⟩ := at_ltT (xs := xs) (i := i) (by rw [HN.out]; exact hlt2)
          obtain ⟨b, off, ua, ma, la, uc, mc, lc, e, Z0⟩ := HR.out.at hx
          obtain rfl := e
          have Z := Z0.below g
          have HRl : Hid (Rs kyE 2 w la x.l) := Z0.l
          have hok := (HS.out x (List.mem_of_getElem? hx)).2.2.2
          have HK : Hid (allRK rs (xs.take (i + 1)) = x.l.foldl withL (allRK rs (xs.take i))) := allRK_step hx
          have hmb : m3 ≤ 8000000 := by have h1 := HCb.out i; have h2 := hmm.out; omega
          clear hx Z0
          generalize allRK rs (xs.take i) = M at hmm ho HK
          obtain ⟨id, us, ms, ls⟩ := x
          obtain ⟨c0, c1, c2, c3, -, -, -⟩ := Z
          dsimp only at c0 c1 c2 c3 HK HRl hok
          have hcon := fun V hV hO => withAll_any w a3 M m3 c3' la ls ls.length lc V hmm.out hmb rfl hok HRl.out (hV : Below w.heap.size w V) hO
          generalize us.length = un at c1
          generalize ms.length = mn at c2
          generalize ls.length = ln at c3 hcon hok
          go_upto_region 10 with (fail)
          generalize hY : World.alloc _ _ = Y7
          have g7 : Below wr.heap.size wr Y7 := by rw [← hY]; go_grown
          have Z : T4 Y7 wr.heap.size id ua un uc ma mn mc la ln lc := by rw [← hY]; exact ⟨by simp [go_sem], by simp [go_sem], by simp [go_sem], by simp [go_sem]⟩
          have ho := ownsRow_below ho g7
          have g := g.trans (g7.mono g.size)
          clear hY c0 c1 c2 c3 g7
          generalize wr.heap.size = tb at Z ⊢
          have hcon := hcon Y7 g ho
          obtain ⟨z0, z1, z2, z3⟩ := Z
          go_wp2_with fail
          refine hcon.mono ?_
          rintro e W1 ⟨a2, c2, rfl, g2, ho2, -, -⟩
          rw [← HK.out] at ho2 ⊢
          clear hcon z0 z1 z2 z3 ho g hmm
          obtain ⟨m2, hm2⟩ : ∃ m2, (allRK rs (xs.take (i + 1))).length = m2 := ⟨_, rfl⟩
          have HM2 : Hid ((allRK rs (xs.take (i + 1))).length = m2) := hm2
          have HO : Hid (W1.ownsRow w.heap.size 97 2 (.slice a2 m2 c2) (allRK rs (xs.take (i + 1))).length (flat kyE (allRK rs (xs.take (i + 1))))) := by show World.ownsRow _ _ _ _ _ _ _; rw [← hm2]; exact ho2
          rw [hm2]
          clear hm2 ho2 HK
          go_wp2_with fail
          go_roundw
          case rel => exact ⟨i + 1, a2, c2, m2, by omega, by go_num, rfl, HM2, g2, HO.out⟩
          case measure => simp [intOf]; omega
        · have e : i = n := by omega
          subst e
          have HE : Hid (xs.take i = xs) := List.take_of_length_le (by rw [HN.out]; exact Nat.le_refl _)
          have HM : Hid ((allRK rs xs).length = m3) := by have h := hmm.out; rw [HE.out] at h; exact h
          have HO9 : Hid (wr.ownsRow w.heap.size 97 2 (.slice a3 m3 c3') (allRK rs xs).length (flat kyE (allRK rs xs))) := by have h := ho; rw [HE.out] at h; exact h
          clear ho hmm
          go_wp2_with fail
          refine bodyPost_ret (v := .slice a3 m3 c3') (by simp [results, Tryz.results101, go_sem]) rfl ?_
          have h9 := HO9.out
          rw [HM.out] at h9 ⊢
          exact ⟨a3, c3', rfl, g, h9⟩

end Go.Proofs.YtpjlpnaamkbicaaGreatDoor
