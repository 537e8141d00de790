/-
  The program's CheckOp.
-/
import Derived.Test.YtpjlpnaamkbicaaGreatDoorCKCkt
import Derived.Test.YtpjlpnaamkbicaaGreatDoorCKTxl

namespace Go.Proofs.YtpjlpnaamkbicaaGreatDoor
open Go.RowKit Go.Maps
set_option linter.unusedVariables false
set_option maxRecDepth 20000

def or3 (x y z : Int) : Int := if x = 0 then (if y = 0 then z else y) else x
structure C3i (w : World) (b : Nat) (x y z : Int) : Prop where
  c0 : w.cell? ⟨b, 0, none⟩ = some (.int .i64 x)
  c1 : w.cell? ⟨b, 1, none⟩ = some (.int .i64 y)
  c2 : w.cell? ⟨b, 2, none⟩ = some (.int .i64 z)
set_option maxHeartbeats 400000 in
theorem or64_3 (b : Nat) (x y z : Int) (w : World) (h0 : w.cell? ⟨b, 0, none⟩ = some (.int .i64 x)) (h1 : w.cell? ⟨b, 1, none⟩ = some (.int .i64 y)) (h2 : w.cell? ⟨b, 2, none⟩ = some (.int .i64 z)) :
    Calls Tryz.prog 24 #[.slice (some ⟨b, 0, none⟩) 3 3] w fun e w' => e = .returned (.int .i64 (or3 x y z)) ∧ w' = w := by
  by_cases hx : x = 0
  · subst hx
    by_cases hy : y = 0
    · subst hy
      have e : or3 0 0 z = z := rfl
      rw [e]
      clear e
      by_cases hz : z = 0
      · subst hz
        go_enter Tryz.func24, Tryz.ntmps24
        go_wp2_with fail
        refine wp_loop_rounds 4 ?_
        rw [rounds_succ]
        go_wp2_with fail
        rw [rounds_succ]
        go_wp2_with fail
        rw [rounds_succ]
        go_wp2_with fail
        rw [rounds_succ]
        go_wp2_with fail
        go_ret
        exact ⟨rfl, rfl⟩
      · go_enter Tryz.func24, Tryz.ntmps24
        go_wp2_with fail
        refine wp_loop_rounds 4 ?_
        rw [rounds_succ]
        go_wp2_with fail
        rw [rounds_succ]
        go_wp2_with fail
        rw [rounds_succ]
        go_wp2_with fail
        go_ret
        exact ⟨rfl, rfl⟩
    · have e : or3 0 y z = y := by unfold or3; simp [hy]
      rw [e]
      clear e
      go_enter Tryz.func24, Tryz.ntmps24
      go_wp2_with fail
      refine wp_loop_rounds 4 ?_
      rw [rounds_succ]
      go_wp2_with fail
      rw [rounds_succ]
      go_wp2_with fail
      go_ret
      exact ⟨rfl, rfl⟩
  · have e : or3 x y z = x := by unfold or3; simp [hx]
    rw [e]
    clear e
    go_enter Tryz.func24, Tryz.ntmps24
    go_wp2_with fail
    refine wp_loop_rounds 4 ?_
    rw [rounds_succ]
    go_wp2_with fail
    go_ret
    exact ⟨rfl, rfl⟩

theorem txs_marks {xs : List TxV} (h : txsQ xs = 0) : ∀ x ∈ xs, x.m.length ≤ 8 := by
  unfold txsQ at h
  split at h
  · cases h
  · split at h
    · rename_i hf
      intro x hx
      obtain ⟨i, hi, rfl⟩ := List.mem_iff_getElem.1 hx
      have h1 := (txs_at hi (rng_zero hf i hi)).2
      unfold alnQ at h1
      split at h1
      · unfold mlQ at h1
        split at h1
        · cases h1
        · rename_i h2
          unfold manyB at h2
          simp only [Bool.or_eq_true, decide_eq_true_eq, not_or] at h2
          omega
      · rename_i h2; exact absurd h1 h2
    · rename_i hf; exact absurd h hf
theorem ck_or {rs : List Rw} {xs : List TxV} {kd tx t k v : Int} {s : ByteArray} {mk : Int} : (or3 (rowsQ rs) (txsQ xs) (opQ kd tx t k v s mk) ≠ 0 → ckV rs xs kd tx t k v s mk = crVal (or3 (rowsQ rs) (txsQ xs) (opQ kd tx t k v s mk)) false zC) ∧ (or3 (rowsQ rs) (txsQ xs) (opQ kd tx t k v s mk) = 0 → rowsQ rs = 0 ∧ txsQ xs = 0 ∧ opQ kd tx t k v s mk = 0 ∧ ckV rs xs kd tx t k v s mk = ckC rs xs kd tx t k v s mk) := by
  unfold ckV or3
  by_cases h1 : rowsQ rs = 0
  · by_cases h2 : txsQ xs = 0
    · by_cases h3 : opQ kd tx t k v s mk = 0
      · simp [h1, h2, h3]
      · simp [h1, h2, h3]
    · simp [h1, h2]
  · simp [h1]
/-- What follows once the transaction is found. -/
theorem ck_at {rs : List Rw} {xs : List TxV} {kd tx t k v : Int} {s : ByteArray} {mk : Int} {ml : Nat} (h1 : kd ≠ 1) (h9 : kd ≠ 9) (hw : inW kd 1 9 = true) (ha : ¬ atJ xs tx < 0) (hm : mrkN xs tx = ml) (h8 : ml ≤ 8) :
    ckC rs xs kd tx t k v s mk = if (decide (kd = 5) && decide (ml = 8)) = true then crVal 2 false zC else if (decide (kd = 6) && decide ((ml : Int) ≤ mk)) = true then crVal 3 false zC else if inW kd 2 4 = true then ckR rs xs kd tx t k v s else crVal 0 false zC := by
  unfold ckC
  rw [hm, if_neg h1, if_neg h9, if_neg ha]
  rcases inW_nine hw with rfl | rfl | rfl | rfl | rfl | rfl | rfl | rfl | rfl
  · exact absurd rfl h1
  · simp [inW]
  · simp [inW]
  · simp [inW]
  · have e : (ml = 8) ↔ 8 ≤ ml := by omega
    simp [inW, e]
  · simp [inW]
  · simp [inW]
  · simp [inW]
  · exact absurd rfl h9

set_option maxHeartbeats 16000000 in
theorem implCheckOp_any (ra : Option Addr) (rs : List Rw) (rn rc : Nat) (a : Option Addr) (xs : List TxV) (n c : Nat) (kd tx t k v : Int) (s : ByteArray) (mk : Int) (w : World) (hrn : rs.length = rn) (hrm : rn ≤ 1048576) (hrs : ∀ r ∈ rs, r.s.size ≤ 1048576) (hr : Rs rwE 4 w ra rs) (hn : xs.length = n) (hm : n ≤ 1048576) (hs : ∀ x ∈ xs, TxOk 1048576 x) (hx : TxRc w a xs) (hss : s.size ≤ 1048576) (hE : Errs w) :
    Calls Tryz.prog 11 #[.slice ra rn rc, .slice a n c, .agg #[.int .i64 kd, .int .i64 tx, .int .i64 t, .int .i64 k, .int .i64 v, .string s, .int .i64 mk]] w fun e w' => e = .returned (ckV rs xs kd tx t k v s mk) ∧ Below w.heap.size w w' := by
  have HRf : Hid (∀ V, Below w.heap.size w V → Calls Tryz.prog 25 #[.slice ra rn rc] V fun e w' => e = .returned (.int .i64 (rowsQ rs)) ∧ Below V.heap.size V w') := fun V hV => implRowsFault_any ra rs rn rc V hrn (by omega) (fun r hr => Nat.le_trans (hrs r hr) (by decide)) (hr.below hV (Nat.le_refl _))
  have HF : Hid (∀ V, Below w.heap.size w V → Calls Tryz.prog 26 #[.slice a n c] V fun e w' => e = .returned (.int .i64 (txsQ xs)) ∧ Below V.heap.size V w') := fun V hV => by
    have h := implTxsFault_any a xs n c V hn hm hs (hx.below hV (Nat.le_refl _))
    rw [txs_eq] at h
    exact h
  have HOf : Hid (∀ V, Calls Tryz.prog 27 #[.agg #[.int .i64 kd, .int .i64 tx, .int .i64 t, .int .i64 k, .int .i64 v, .string s, .int .i64 mk]] V fun e w' => e = .returned (.int .i64 (opQ kd tx t k v s mk)) ∧ Below V.heap.size V w') := fun V => implOpFault_any kd tx t k v s mk V (Nat.le_trans hss (by decide))
  have HTx : Hid (∀ V, Calls Tryz.prog 28 #[.agg #[.int .i64 kd, .int .i64 tx, .int .i64 t, .int .i64 k, .int .i64 v, .string s, .int .i64 mk]] V fun e w' => e = .returned (.bool (!((kd == 1) || (kd == 9)))) ∧ Below V.heap.size V w') := fun V => hasTx_any kd tx t k v s mk V
  have HRw : Hid (∀ V, Calls Tryz.prog 30 #[.agg #[.int .i64 kd, .int .i64 tx, .int .i64 t, .int .i64 k, .int .i64 v, .string s, .int .i64 mk]] V fun e w' => e = .returned (.bool (inW kd 2 4)) ∧ Below V.heap.size V w') := fun V => hasRow_any kd tx t k v s mk V
  have HPl : Hid (∀ V, Below w.heap.size w V → Calls Tryz.prog 29 #[.slice a n c, .int .i64 tx] V fun e w' => e = .returned (.int .i64 (atJ xs tx)) ∧ Below V.heap.size V w') := fun V hV => placeOfTx_any a xs n c tx V hn hm (hx.rd.below hV (Nat.le_refl _))
  have HCk : Hid (∀ V, Below w.heap.size w V → rowsQ rs = 0 → txsQ xs = 0 → opQ kd tx t k v s mk = 0 → inW kd 2 4 = true → Calls Tryz.prog 31 #[.slice ra rn rc, .slice a n c, .agg #[.int .i64 kd, .int .i64 tx, .int .i64 t, .int .i64 k, .int .i64 v, .string s, .int .i64 mk]] V fun e w' => e = .returned (ckR rs xs kd tx t k v s) ∧ Below V.heap.size V w') := fun V hV h1 h2 h3 h4 => by
    have hkd : kd = 2 ∨ kd = 3 ∨ kd = 4 := by
      unfold inW at h4
      simp at h4
      omega
    exact checkTurn_any ra rs rn rc a xs n c kd tx t k v s mk V hrn h1 hrs (hr.below hV (Nat.le_refl _)) hn (by rw [← hn]; exact txs_four h2) hs (hx.rd.below hV (Nat.le_refl _)) hkd ((opQ_zero h3).2 hkd).2 hss (hE.below hV)
  have HXt : Hid (∀ V, Below w.heap.size w V → txsQ xs = 0 → ¬ atJ xs tx < 0 → ∃ (j : Nat) (b off : Nat) (ma : Option Addr) (mc : Nat), atJ xs tx = (j : Int) ∧ j < n ∧ mrkN xs tx ≤ 8 ∧ a = some ⟨b, off, none⟩ ∧ V.cell? ⟨b, off + j * 4 + 2, none⟩ = some (.slice ma (mrkN xs tx) mc)) := fun V hV h1 h2 => by
    obtain ⟨j, x, hxj, e, _⟩ := ixT_at (p := fun i : Int => decide (i = tx)) (xs := xs) (by unfold atJ at h2; omega)
    obtain ⟨b, off, ua, ma, la, uc, mc, lc, e0, Z⟩ := (hx.rd.below hV (Nat.le_refl _)).at hxj
    have em : mrkN xs tx = x.m.length := by
      have e1 : atJ xs tx = (j : Int) := e
      unfold mrkN
      rw [e1]
      simp [List.getD_eq_getElem?_getD, hxj]
    refine ⟨j, b, off, ma, mc, e, ?_, ?_, e0, ?_⟩
    · rw [← hn]; exact (List.getElem?_eq_some_iff.1 hxj).1
    · rw [em]; exact txs_marks h1 x (List.mem_of_getElem? hxj)
    · rw [em]; exact Z.c2
  have HNn : Hid (txsQ xs = 0 → n ≤ 4) := fun h => by rw [← hn]; exact txs_four h
  have HAt : Hid (∀ ml : Nat, kd ≠ 1 → kd ≠ 9 → inW kd 1 9 = true → ¬ atJ xs tx < 0 → mrkN xs tx = ml → ml ≤ 8 → ckC rs xs kd tx t k v s mk = if (decide (kd = 5) && decide (ml = 8)) = true then crVal 2 false zC else if (decide (kd = 6) && decide ((ml : Int) ≤ mk)) = true then crVal 3 false zC else if inW kd 2 4 = true then ckR rs xs kd tx t k v s else crVal 0 false zC) := fun ml h1 h9 hw ha hm h8 => ck_at h1 h9 hw ha hm h8
  have HC1 : Hid (kd = 1 → ckC rs xs kd tx t k v s mk = if 4 ≤ n then crVal 2 false zC else crVal 0 false zC) := fun h => by unfold ckC; rw [if_pos h, hn]
  have HC9 : Hid (kd = 9 → ckC rs xs kd tx t k v s mk = crVal 0 false zC) := fun h => by subst h; rfl
  have HCn : Hid (kd ≠ 1 → kd ≠ 9 → atJ xs tx < 0 → ckC rs xs kd tx t k v s mk = crVal 4 false zC) := fun h1 h9 ha => by unfold ckC; rw [if_neg h1, if_neg h9, if_pos ha]
  have HQ0 : Hid (opQ kd tx t k v s mk = 0 → inW kd 1 9 = true) := fun h => (opQ_zero h).1
  have HE : Hid ((or3 (rowsQ rs) (txsQ xs) (opQ kd tx t k v s mk) ≠ 0 → ckV rs xs kd tx t k v s mk = crVal (or3 (rowsQ rs) (txsQ xs) (opQ kd tx t k v s mk)) false zC) ∧ (or3 (rowsQ rs) (txsQ xs) (opQ kd tx t k v s mk) = 0 → rowsQ rs = 0 ∧ txsQ xs = 0 ∧ opQ kd tx t k v s mk = 0 ∧ ckV rs xs kd tx t k v s mk = ckC rs xs kd tx t k v s mk)) := ck_or
  obtain ⟨R, hR⟩ : ∃ R, ckV rs xs kd tx t k v s mk = R := ⟨_, rfl⟩
  rw [hR] at HE ⊢
  have HRf0 := ckR_form rs xs kd tx t k v s
  clear hrn hrm hrs hr hn hm hs hx hss hE hR
  generalize rowsQ rs = k1 at HRf HCk HE
  generalize txsQ xs = k2 at HF HCk HE HXt HNn
  generalize opQ kd tx t k v s mk = k3 at HOf HCk HE HQ0
  generalize ckC rs xs kd tx t k v s mk = cR at HE HAt HC1 HC9 HCn
  generalize ckR rs xs kd tx t k v s = rR at HCk HAt HRf0
  generalize mrkN xs tx = ml at HXt HAt
  generalize atJ xs tx = at' at HPl HXt HAt HCn
  obtain ⟨rq, rt, rch, hrR0⟩ := HRf0
  obtain ⟨cw, ⟨bt, bk, bv, bs⟩, ci, ⟨yt, yk, yv, ys⟩⟩ := rch
  have hrR : rR = .agg #[.int .i64 rq, .bool rt, .bool cw, .int .i64 bt, .int .i64 bk, .int .i64 bv, .string bs, .bool ci, .int .i64 yt, .int .i64 yk, .int .i64 yv, .string ys] := hrR0
  clear hrR0
  subst hrR
  go_enter Tryz.func11, Tryz.ntmps11
  go_upto_region 1 with (fail)
  generalize hY : World.alloc _ _ = Y
  have gY : Below w.heap.size w Y := by rw [← hY]; go_grown
  have hO : OpAt Y w.heap.size kd tx t k v s mk := by rw [← hY]; exact ⟨by simp [go_sem], by simp [go_sem], by simp [go_sem], by simp [go_sem], by simp [go_sem], by simp [go_sem], by simp [go_sem]⟩
  have hA : R12 Y (w.heap.size + 1) := by rw [← hY]; exact ⟨by simp [go_sem], by simp [go_sem], by simp [go_sem], by simp [go_sem], by simp [go_sem], by simp [go_sem], by simp [go_sem], by simp [go_sem], by simp [go_sem], by simp [go_sem], by simp [go_sem], by simp [go_sem], by simp [go_sem], by simp [go_sem], by simp [go_sem], by simp [go_sem], by simp [go_sem], by simp [go_sem], by simp [go_sem], by simp [go_sem], by simp [go_sem], by simp [go_sem], by simp [go_sem], by simp [go_sem]⟩
  clear hY
  obtain ⟨ob, hob⟩ : ∃ ob, w.heap.size = ob := ⟨_, rfl⟩
  obtain ⟨ab, hab⟩ : ∃ ab, ob + 1 = ab := ⟨_, rfl⟩
  have hwo : w.heap.size ≤ ob := by omega
  have hwa : w.heap.size ≤ ab := by omega
  rw [hob] at hO hA
  rw [hab] at hA
  simp only [hob, hab]
  have HOB : Hid (w.heap.size = ob) := hob
  clear hob hab
  have lO := hO.lt
  have lA := hA.lt
  have HOp : Hid (∀ V, Below Y.heap.size Y V → OpAt V ob kd tx t k v s mk) := fun V hV => hO.below hV lO
  have HOb : Hid (∀ V, Below Y.heap.size Y V → R12 V ab) := fun V hV => hA.below hV lA
  clear hA hO
  obtain ⟨q, hq⟩ : ∃ q, or3 k1 k2 k3 = q := ⟨_, rfl⟩
  have HK : Hid (or3 k1 k2 k3 = q) := hq
  rw [hq] at HE
  clear hq
  go_cut [7] from 9 (fun s7 wc => s7 = .int .i64 q ∧ Below Y.heap.size Y wc)
  case first =>
    clear HTx HRw HPl HCk HXt HNn HAt HC1 HC9 HCn HQ0 HE HOb
    refine wp_region_held_drew (S := fun V => OpAt V ob kd tx t k v s mk ∧ Below Y.heap.size Y V) (by kernel_rfl) ⟨HOp.out _ (Below.refl _ _).drew, (Below.refl _ _).drew⟩ (fun hHeld => ?_)
    generalize World.drew _ = D0 at hHeld ⊢
    refine wpAnyH_take (i := 0) (v := ?v1) rfl (by kernel_rfl) (by kernel_rfl) (by kernel_rfl) (fun _ _ _ h => h) (Or.inl ⟨by kernel_rfl, ?h1⟩) hHeld ?_
    case h1 => intro u hSw; clear hSw; go_simp; try with_reducible rfl
    try simp only [List.getElem_toArray]
    try simp only [List.getElem_cons_succ]
    try simp only [List.getElem_cons_zero]
    try simp only [Act.put]
    try simp only [List.setIfInBounds_toArray]
    try simp only [List.set]
    refine wpAnyH_take (i := 2) (v := ?v2) rfl (by kernel_rfl) (by kernel_rfl) (by kernel_rfl) (fun _ _ _ h => h) (Or.inl ⟨by kernel_rfl, ?h2⟩) hHeld ?_
    case h2 => intro u hSw; clear hSw; go_simp; try with_reducible rfl
    try simp only [List.getElem_toArray]
    try simp only [List.getElem_cons_succ]
    try simp only [List.getElem_cons_zero]
    try simp only [Act.put]
    try simp only [List.setIfInBounds_toArray]
    try simp only [List.set]
    refine wpAnyH_take (i := 4) (v := ?v3) rfl (by kernel_rfl) (by kernel_rfl) (by kernel_rfl) (fun _ _ _ h => h) (Or.inl ⟨by kernel_rfl, ?h3⟩) hHeld ?_
    case h3 => intro u hSw; (obtain ⟨q0, q1, q2, q3, q4, q5, q6⟩ := hSw.1); clear hSw; go_simp; try with_reducible rfl
    try simp only [List.getElem_toArray]
    try simp only [List.getElem_cons_succ]
    try simp only [List.getElem_cons_zero]
    try simp only [Act.put]
    try simp only [List.setIfInBounds_toArray]
    try simp only [List.set]
    refine wpAnyH_ready (rs := [1]) (by kernel_rfl) (by simp) ?_
    refine AllReadyH.cons rfl (fun K hK => ?_) AllReadyH.nil
    go_simp
    go_wp2_with (go_at_call 25; refine (HRf.out _ (gY.trans (hHeld.2.mono gY.size))).mono ?_; rintro e W1 ⟨rfl, gg⟩)
    refine hK.out _ _ (⟨hHeld.1.below gg hHeld.1.lt, hHeld.2.trans (gg.mono hHeld.2.size)⟩) (fun hHeld => ?_)
    clear hK K
    clear gg
    try simp only [Act.put]
    try simp only [List.setIfInBounds_toArray]
    try simp only [List.set]
    refine wpAnyH_ready (rs := [3]) (by kernel_rfl) (by simp) ?_
    refine AllReadyH.cons rfl (fun K hK => ?_) AllReadyH.nil
    go_simp
    go_wp2_with (go_at_call 26; refine (HF.out _ (gY.trans (hHeld.2.mono gY.size))).mono ?_; rintro e W2 ⟨rfl, gg⟩)
    refine hK.out _ _ (⟨hHeld.1.below gg hHeld.1.lt, hHeld.2.trans (gg.mono hHeld.2.size)⟩) (fun hHeld => ?_)
    clear hK K
    clear gg
    try simp only [Act.put]
    try simp only [List.setIfInBounds_toArray]
    try simp only [List.set]
    refine wpAnyH_ready (rs := [5]) (by kernel_rfl) (by simp) ?_
    refine AllReadyH.cons rfl (fun K hK => ?_) AllReadyH.nil
    go_simp
    go_wp2_with (go_at_call 27; refine (HOf.out _).mono ?_; rintro e W3 ⟨rfl, gg⟩)
    refine hK.out _ _ (⟨hHeld.1.below gg hHeld.1.lt, hHeld.2.trans (gg.mono hHeld.2.size)⟩) (fun hHeld => ?_)
    clear hK K
    clear gg
    try simp only [Act.put]
    try simp only [List.setIfInBounds_toArray]
    try simp only [List.set]
    have gg : Below W3.heap.size W3 (W3.alloc (.cells #[.int .i64 k1, .int .i64 k2, .int .i64 k3] 2)) := by go_grown
    have hC : C3i (W3.alloc (.cells #[.int .i64 k1, .int .i64 k2, .int .i64 k3] 2)) W3.heap.size k1 k2 k3 := ⟨by simp [go_sem], by simp [go_sem], by simp [go_sem]⟩
    refine wpAnyH_ready (rs := [6]) (by kernel_rfl) (by simp) ?_
    refine AllReadyH.cons rfl (fun K hK => ?_) AllReadyH.nil
    go_simp
    refine hK.out _ _ ⟨hHeld.1.below gg hHeld.1.lt, hHeld.2.trans (gg.mono hHeld.2.size)⟩ (fun hHeld => ?_)
    clear hK K gg
    generalize W3.alloc (.cells #[.int .i64 k1, .int .i64 k2, .int .i64 k3] 2) = W4 at hHeld hC ⊢
    generalize W3.heap.size = cb at hC ⊢
    try simp only [Act.put]
    try simp only [List.setIfInBounds_toArray]
    try simp only [List.set]
    refine wpAnyH_ready (rs := [7]) (by kernel_rfl) (by simp) ?_
    refine AllReadyH.cons rfl (fun K hK => ?_) AllReadyH.nil
    go_simp
    go_wp2_with (go_at_call 24; refine (or64_3 cb k1 k2 k3 _ hC.c0 hC.c1 hC.c2).mono ?_; rintro e W5 ⟨rfl, hw⟩; subst hw)
    refine hK.out _ _ (hHeld) (fun hHeld => ?_)
    clear hK K
    try simp only [Act.put]
    try simp only [List.setIfInBounds_toArray]
    try simp only [List.set]
    refine wpAnyH_take (i := 8) (v := ?v4) rfl (by kernel_rfl) (by kernel_rfl) (by kernel_rfl) (fun _ _ _ h => h) (Or.inl ⟨by kernel_rfl, ?h4⟩) hHeld ?_
    case h4 => intro u hSw; clear hSw; go_simp; try with_reducible rfl
    try simp only [List.getElem_toArray]
    try simp only [List.getElem_cons_succ]
    try simp only [List.getElem_cons_zero]
    try simp only [Act.put]
    try simp only [List.setIfInBounds_toArray]
    try simp only [List.set]
    refine wpAnyH_done (by kernel_rfl) ?_ _
    go_wp2_with fail
    go_meet
    case rel => exact ⟨by rw [HK.out], hHeld.2⟩
  case rest =>
    obtain ⟨rfl, gy⟩ := hcut
    obtain ⟨w1, hw1⟩ : ∃ w1, w1 = wc := ⟨_, rfl⟩
    subst hw1
    clear HRf HF HOf HK
    have g := gY.trans (gy.mono gY.size)
    by_cases h0 : q = 0
    case neg =>
      have d0 : (q != 0) = true := by simpa using h0
      have HV : Hid (R = .agg #[.int .i64 q, .bool false, .bool false, .int .i64 0, .int .i64 0, .int .i64 0, .string ⟨#[]⟩, .bool false, .int .i64 0, .int .i64 0, .int .i64 0, .string ⟨#[]⟩]) := HE.out.1 h0
      clear HE HTx HRw HPl HCk HXt HNn HAt HC1 HC9 HCn HQ0
      obtain ⟨o0, o1, o2, o3, o4, o5, o6, o7, o8, o9, o10, o11, p0, p1, p2, p3, p4, p5, p6, p7, p8, p9, p10, p11⟩ := HOb.out w1 gy
      go_wp2_with fail
      refine bodyPost_ret (v := .agg #[.int .i64 q, .bool false, .bool false, .int .i64 0, .int .i64 0, .int .i64 0, .string ⟨#[]⟩, .bool false, .int .i64 0, .int .i64 0, .int .i64 0, .string ⟨#[]⟩]) (by simp [results, Tryz.results11, go_sem, *]) rfl ?_
      exact ⟨by rw [HV.out], by go_grown⟩
    obtain ⟨z1, z2, z3, hRc⟩ := HE.out.2 h0
    have HRc : Hid (R = cR) := hRc
    have HCk2 : Hid (∀ V, Below w.heap.size w V → inW kd 2 4 = true → _) := fun V hV h => HCk.out V hV z1 z2 z3 h
    have HXt2 : Hid (∀ V, Below w.heap.size w V → ¬ at' < 0 → _) := fun V hV h => HXt.out V hV z2 h
    have hn4 := HNn.out z2
    have HIn : Hid (inW kd 1 9 = true) := HQ0.out z3
    clear HE HCk HXt HNn HQ0 z1 z2 z3 hRc
    subst h0
    obtain ⟨c0, c1, c2, c3, c4, c5, c6⟩ := HOp.out w1 gy
    have hcon := HTx.out w1
    clear HTx
    go_wp2_with fail
    refine hcon.mono ?_
    rintro e w2 ⟨rfl, g2⟩
    clear hcon c0 c1 c2 c3 c4 c5 c6
    have g := g.trans (g2.mono g.size)
    have gy := gy.trans (g2.mono gy.size)
    clear g2
    by_cases h1 : kd = 1
    · subst h1
      have e1 : (!(((1 : Int) == 1) || ((1 : Int) == 9))) = false := rfl
      rw [e1]
      obtain ⟨c0, c1, c2, c3, c4, c5, c6⟩ := HOp.out w2 gy
      clear HRw HPl HCk2 HXt2 HAt HC9 HCn HIn
      by_cases h4 : n = 4
      · subst h4
        have HV : Hid (R = .agg #[.int .i64 2, .bool false, .bool false, .int .i64 0, .int .i64 0, .int .i64 0, .string ⟨#[]⟩, .bool false, .int .i64 0, .int .i64 0, .int .i64 0, .string ⟨#[]⟩]) := by show _ = _; rw [HRc.out, HC1.out rfl]; rfl
        clear HRc HC1
        obtain ⟨o0, o1, o2, o3, o4, o5, o6, o7, o8, o9, o10, o11, p0, p1, p2, p3, p4, p5, p6, p7, p8, p9, p10, p11⟩ := HOb.out w2 gy
        go_wp2_with fail
        refine bodyPost_ret (v := .agg #[.int .i64 2, .bool false, .bool false, .int .i64 0, .int .i64 0, .int .i64 0, .string ⟨#[]⟩, .bool false, .int .i64 0, .int .i64 0, .int .i64 0, .string ⟨#[]⟩]) (by simp [results, Tryz.results11, go_sem, *]) rfl ?_
        exact ⟨by rw [HV.out], by go_grown⟩
      · have d4 : ((n : Int) == 4) = false := by simp; omega
        have HV : Hid (R = .agg #[.int .i64 0, .bool false, .bool false, .int .i64 0, .int .i64 0, .int .i64 0, .string ⟨#[]⟩, .bool false, .int .i64 0, .int .i64 0, .int .i64 0, .string ⟨#[]⟩]) := by show _ = _; rw [HRc.out, HC1.out rfl, if_neg (by omega)]; rfl
        clear HRc HC1
        obtain ⟨o0, o1, o2, o3, o4, o5, o6, o7, o8, o9, o10, o11, p0, p1, p2, p3, p4, p5, p6, p7, p8, p9, p10, p11⟩ := HOb.out w2 gy
        go_wp2_with fail
        refine bodyPost_ret (v := .agg #[.int .i64 0, .bool false, .bool false, .int .i64 0, .int .i64 0, .int .i64 0, .string ⟨#[]⟩, .bool false, .int .i64 0, .int .i64 0, .int .i64 0, .string ⟨#[]⟩]) (by simp [results, Tryz.results11, go_sem, *]) rfl ?_
        exact ⟨by rw [HV.out], by go_grown⟩
    by_cases h9 : kd = 9
    · subst h9
      have e1 : (!(((9 : Int) == 1) || ((9 : Int) == 9))) = false := rfl
      rw [e1]
      obtain ⟨c0, c1, c2, c3, c4, c5, c6⟩ := HOp.out w2 gy
      have HV : Hid (R = .agg #[.int .i64 0, .bool false, .bool false, .int .i64 0, .int .i64 0, .int .i64 0, .string ⟨#[]⟩, .bool false, .int .i64 0, .int .i64 0, .int .i64 0, .string ⟨#[]⟩]) := by show _ = _; rw [HRc.out, HC9.out rfl]; rfl
      clear HRw HPl HCk2 HXt2 HAt HC1 HC9 HCn HIn HRc
      obtain ⟨o0, o1, o2, o3, o4, o5, o6, o7, o8, o9, o10, o11, p0, p1, p2, p3, p4, p5, p6, p7, p8, p9, p10, p11⟩ := HOb.out w2 gy
      go_wp2_with fail
      refine bodyPost_ret (v := .agg #[.int .i64 0, .bool false, .bool false, .int .i64 0, .int .i64 0, .int .i64 0, .string ⟨#[]⟩, .bool false, .int .i64 0, .int .i64 0, .int .i64 0, .string ⟨#[]⟩]) (by simp [results, Tryz.results11, go_sem, *]) rfl ?_
      exact ⟨by rw [HV.out], by go_grown⟩
    have e1 : (!((kd == 1) || (kd == 9))) = true := by simp [h1, h9]
    rw [e1]
    obtain ⟨c0, c1, c2, c3, c4, c5, c6⟩ := HOp.out w2 gy
    have hcon := HPl.out w2 g
    clear HPl HC1 HC9
    go_wp2_with fail
    refine hcon.mono ?_
    rintro e w4 ⟨rfl, g4⟩
    clear hcon c0 c1 c2 c3 c4 c5 c6
    have g := g.trans (g4.mono g.size)
    have gy := gy.trans (g4.mono gy.size)
    clear g4
    by_cases ha : at' < 0
    · have HV : Hid (R = .agg #[.int .i64 4, .bool false, .bool false, .int .i64 0, .int .i64 0, .int .i64 0, .string ⟨#[]⟩, .bool false, .int .i64 0, .int .i64 0, .int .i64 0, .string ⟨#[]⟩]) := by show _ = _; rw [HRc.out, HCn.out h1 h9 ha]; rfl
      clear HRw HCk2 HXt2 HAt HCn HIn HRc
      obtain ⟨o0, o1, o2, o3, o4, o5, o6, o7, o8, o9, o10, o11, p0, p1, p2, p3, p4, p5, p6, p7, p8, p9, p10, p11⟩ := HOb.out w4 gy
      go_wp2_with fail
      refine bodyPost_ret (v := .agg #[.int .i64 4, .bool false, .bool false, .int .i64 0, .int .i64 0, .int .i64 0, .string ⟨#[]⟩, .bool false, .int .i64 0, .int .i64 0, .int .i64 0, .string ⟨#[]⟩]) (by simp [results, Tryz.results11, go_sem, *]) rfl ?_
      exact ⟨by rw [HV.out], by go_grown⟩
    obtain ⟨j, xb, off, ma, mc, hja, hjn, h8, haa, hcell⟩ := HXt2.out w4 g (by first | exact ha | omega)
    have HRe : Hid (R = if (decide (kd = 5) && decide (ml = 8)) = true then crVal 2 false zC else if (decide (kd = 6) && decide ((ml : Int) ≤ mk)) = true then crVal 3 false zC else if inW kd 2 4 = true then _ else crVal 0 false zC) := HRc.out.trans (HAt.out ml h1 h9 HIn.out (by first | exact ha | omega) rfl h8)
    clear HXt2 HAt HCn HIn HRc ha
    subst hja haa
    have hj0 : ¬ (j : Int) < 0 := by omega
    have hjn' : (j : Int) < (n : Int) := by omega
    have lxm := World.block_lt_of_cell? _ _ hcell
    have HXm : Hid (∀ V, Below w4.heap.size w4 V → V.cell? ⟨xb, off + j * 4 + 2, none⟩ = some (.slice ma ml mc)) := fun V hV => (hV.cell (p := ⟨xb, off + j * 4 + 2, none⟩) lxm).trans hcell
    clear hcell lxm
    obtain ⟨m5, hm5⟩ : ∃ b, (decide (kd = 5) && decide (ml = 8)) = b := ⟨_, rfl⟩
    obtain ⟨m6, hm6⟩ : ∃ b, (decide (kd = 6) && decide ((ml : Int) ≤ mk)) = b := ⟨_, rfl⟩
    obtain ⟨rb, hrb⟩ : ∃ b, inW kd 2 4 = b := ⟨_, rfl⟩
    have H5 : Hid ((decide (kd = 5) && decide (ml = 8)) = m5) := hm5
    have H6 : Hid ((decide (kd = 6) && decide ((ml : Int) ≤ mk)) = m6) := hm6
    rw [hm5, hm6, hrb] at HRe
    rw [hrb] at HRw HCk2
    clear hm5 hm6 hrb
    go_upto_region 11 with (fail)
    go_cut [42] from 43 (fun s wc => s = .bool m5 ∧ Below w4.heap.size w4 wc)
    case first =>
      clear HRw HCk2 HRe HOb H6
      obtain ⟨c0, c1, c2, c3, c4, c5, c6⟩ := HOp.out w4 gy
      have hx2 := HXm.out w4 (Below.refl _ _)
      by_cases h5 : kd = 5
      · have d5 : (kd == 5) = true := by simp [h5]
        by_cases h88 : ml = 8
        · have d8 : ((ml : Int) == 8) = true := by simp; omega
          have HM : Hid (m5 = true) := by show _ = _; rw [← H5.out]; simp [h5, h88]
          clear H5 h5 h88
          go_wp2_with fail
          go_meet
          case rel => exact ⟨by rw [HM.out], Below.refl _ _⟩
        · have d8 : ((ml : Int) == 8) = false := by simp; omega
          have HM : Hid (m5 = false) := by show _ = _; rw [← H5.out]; simp [h88]
          clear H5 h5 h88
          go_wp2_with fail
          go_meet
          case rel => exact ⟨by rw [HM.out], Below.refl _ _⟩
      · have d5 : (kd == 5) = false := by simp [h5]
        have HM : Hid (m5 = false) := by show _ = _; rw [← H5.out]; simp [h5]
        clear H5 h5
        go_wp2_with fail
        go_meet
        case rel => exact ⟨by rw [HM.out], Below.refl _ _⟩
    case rest =>
      obtain ⟨rfl, g5⟩ := hcut
      obtain ⟨w5, hw5⟩ : ∃ w5, w5 = wc := ⟨_, rfl⟩
      subst hw5
      have g := g.trans (g5.mono g.size)
      have gy := gy.trans (g5.mono gy.size)
      have HXm : Hid (∀ V, Below w5.heap.size w5 V → V.cell? ⟨xb, off + j * 4 + 2, none⟩ = some (.slice ma ml mc)) := fun V hV => HXm.out V (g5.trans (hV.mono g5.size))
      clear g5 H5
      cases m5
      case true =>
        have HV : Hid (R = .agg #[.int .i64 2, .bool false, .bool false, .int .i64 0, .int .i64 0, .int .i64 0, .string ⟨#[]⟩, .bool false, .int .i64 0, .int .i64 0, .int .i64 0, .string ⟨#[]⟩]) := by show _ = _; rw [HRe.out]; rfl
        clear HRw HCk2 HRe H6
        obtain ⟨o0, o1, o2, o3, o4, o5, o6, o7, o8, o9, o10, o11, p0, p1, p2, p3, p4, p5, p6, p7, p8, p9, p10, p11⟩ := HOb.out w5 gy
        go_wp2_with fail
        refine bodyPost_ret (v := .agg #[.int .i64 2, .bool false, .bool false, .int .i64 0, .int .i64 0, .int .i64 0, .string ⟨#[]⟩, .bool false, .int .i64 0, .int .i64 0, .int .i64 0, .string ⟨#[]⟩]) (by simp [results, Tryz.results11, go_sem, *]) rfl ?_
        exact ⟨by rw [HV.out], by go_grown⟩
      have HRe : Hid (R = if m6 = true then crVal 3 false zC else if rb = true then _ else crVal 0 false zC) := HRe.out
      go_upto_region 13 with (fail)
      go_cut [56] from 57 (fun s wc => s = .bool m6 ∧ Below w5.heap.size w5 wc)
      case first =>
        clear HRw HCk2 HRe HOb
        by_cases h6 : kd = 6
        · have d6 : (kd == 6) = true := by simp [h6]
          have hm6 : decide ((ml : Int) ≤ mk) = m6 := by rw [← H6.out]; simp [h6]
          clear H6 h6
          refine wp_region_held_drew (S := fun V => (OpAt V ob kd tx t k v s mk ∧ V.cell? ⟨xb, off + j * 4 + 2, none⟩ = some (.slice ma ml mc)) ∧ Below w5.heap.size w5 V) (by kernel_rfl) ⟨⟨HOp.out _ (gy.trans ((Below.refl _ w5).drew.mono gy.size)), HXm.out _ (Below.refl _ w5).drew⟩, (Below.refl _ w5).drew⟩ (fun hHeld => ?_)
          generalize World.drew _ = D0 at hHeld ⊢
          refine wpAnyH_take (i := 0) (v := ?v5) rfl (by kernel_rfl) (by kernel_rfl) (by kernel_rfl) (fun _ _ _ h => h) (Or.inl ⟨by kernel_rfl, ?h5⟩) hHeld ?_
          case h5 => intro u hSw; clear hSw; go_simp; try with_reducible rfl
          try simp only [List.getElem_toArray]
          try simp only [List.getElem_cons_succ]
          try simp only [List.getElem_cons_zero]
          try simp only [Act.put]
          try simp only [List.setIfInBounds_toArray]
          try simp only [List.set]
          refine wpAnyH_take (i := 1) (v := ?v6) rfl (by kernel_rfl) (by kernel_rfl) (by kernel_rfl) (fun _ _ _ h => h) (Or.inl ⟨by kernel_rfl, ?h6⟩) hHeld ?_
          case h6 => intro u hSw; (obtain ⟨⟨q0, q1, q2, q3, q4, q5, q6⟩, z2⟩ := hSw.1); clear hSw; go_simp; try with_reducible rfl
          try simp only [List.getElem_toArray]
          try simp only [List.getElem_cons_succ]
          try simp only [List.getElem_cons_zero]
          try simp only [Act.put]
          try simp only [List.setIfInBounds_toArray]
          try simp only [List.set]
          refine wpAnyH_take (i := 2) (v := ?v7) rfl (by kernel_rfl) (by kernel_rfl) (by kernel_rfl) (fun _ _ _ h => h) (Or.inl ⟨by kernel_rfl, ?h7⟩) hHeld ?_
          case h7 => intro u hSw; clear hSw; go_simp; try with_reducible rfl
          try simp only [List.getElem_toArray]
          try simp only [List.getElem_cons_succ]
          try simp only [List.getElem_cons_zero]
          try simp only [Act.put]
          try simp only [List.setIfInBounds_toArray]
          try simp only [List.set]
          refine wpAnyH_take (i := 3) (v := ?v8) rfl (by kernel_rfl) (by kernel_rfl) (by kernel_rfl) (fun _ _ _ h => h) (Or.inl ⟨by kernel_rfl, ?h8⟩) hHeld ?_
          case h8 => intro u hSw; clear hSw; go_simp; try with_reducible rfl
          try simp only [List.getElem_toArray]
          try simp only [List.getElem_cons_succ]
          try simp only [List.getElem_cons_zero]
          try simp only [Act.put]
          try simp only [List.setIfInBounds_toArray]
          try simp only [List.set]
          refine wpAnyH_take (i := 4) (v := ?v9) rfl (by kernel_rfl) (by kernel_rfl) (by kernel_rfl) (fun _ _ _ h => h) (Or.inl ⟨by kernel_rfl, ?h9⟩) hHeld ?_
          case h9 => intro u hSw; clear hSw; go_simp; try with_reducible rfl
          try simp only [List.getElem_toArray]
          try simp only [List.getElem_cons_succ]
          try simp only [List.getElem_cons_zero]
          try simp only [Act.put]
          try simp only [List.setIfInBounds_toArray]
          try simp only [List.set]
          refine wpAnyH_take (i := 5) (v := ?v10) rfl (by kernel_rfl) (by kernel_rfl) (by kernel_rfl) (fun _ _ _ h => h) (Or.inl ⟨by kernel_rfl, ?h10⟩) hHeld ?_
          case h10 => intro u hSw; (obtain ⟨⟨q0, q1, q2, q3, q4, q5, q6⟩, z2⟩ := hSw.1); clear hSw; go_simp; try with_reducible rfl
          try simp only [List.getElem_toArray]
          try simp only [List.getElem_cons_succ]
          try simp only [List.getElem_cons_zero]
          try simp only [Act.put]
          try simp only [List.setIfInBounds_toArray]
          try simp only [List.set]
          refine wpAnyH_take (i := 6) (v := ?v11) rfl (by kernel_rfl) (by kernel_rfl) (by kernel_rfl) (fun _ _ _ h => h) (Or.inl ⟨by kernel_rfl, ?h11⟩) hHeld ?_
          case h11 => intro u hSw; clear hSw; go_simp; try with_reducible rfl
          try simp only [List.getElem_toArray]
          try simp only [List.getElem_cons_succ]
          try simp only [List.getElem_cons_zero]
          try simp only [Act.put]
          try simp only [List.setIfInBounds_toArray]
          try simp only [List.set]
          refine wpAnyH_take (i := 7) (v := ?v12) rfl (by kernel_rfl) (by kernel_rfl) (by kernel_rfl) (fun _ _ _ h => h) (Or.inl ⟨by kernel_rfl, ?h12⟩) hHeld ?_
          case h12 => intro u hSw; clear hSw; go_simp; try with_reducible rfl
          try simp only [List.getElem_toArray]
          try simp only [List.getElem_cons_succ]
          try simp only [List.getElem_cons_zero]
          try simp only [Act.put]
          try simp only [List.setIfInBounds_toArray]
          try simp only [List.set]
          refine wpAnyH_take (i := 8) (v := ?v13) rfl (by kernel_rfl) (by kernel_rfl) (by kernel_rfl) (fun _ _ _ h => h) (Or.inl ⟨by kernel_rfl, ?h13⟩) hHeld ?_
          case h13 => intro u hSw; clear hSw; go_simp; try with_reducible rfl
          try simp only [List.getElem_toArray]
          try simp only [List.getElem_cons_succ]
          try simp only [List.getElem_cons_zero]
          try simp only [Act.put]
          try simp only [List.setIfInBounds_toArray]
          try simp only [List.set]
          refine wpAnyH_take (i := 9) (v := ?v14) rfl (by kernel_rfl) (by kernel_rfl) (by kernel_rfl) (fun _ _ _ h => h) (Or.inl ⟨by kernel_rfl, ?h14⟩) hHeld ?_
          case h14 => intro u hSw; clear hSw; go_simp; try with_reducible rfl
          try simp only [List.getElem_toArray]
          try simp only [List.getElem_cons_succ]
          try simp only [List.getElem_cons_zero]
          try simp only [Act.put]
          try simp only [List.setIfInBounds_toArray]
          try simp only [List.set]
          refine wpAnyH_take (i := 10) (v := ?v15) rfl (by kernel_rfl) (by kernel_rfl) (by kernel_rfl) (fun _ _ _ h => h) (Or.inl ⟨by kernel_rfl, ?h15⟩) hHeld ?_
          case h15 => intro u hSw; (obtain ⟨⟨q0, q1, q2, q3, q4, q5, q6⟩, z2⟩ := hSw.1); clear hSw; go_simp; try with_reducible rfl
          try simp only [List.getElem_toArray]
          try simp only [List.getElem_cons_succ]
          try simp only [List.getElem_cons_zero]
          try simp only [Act.put]
          try simp only [List.setIfInBounds_toArray]
          try simp only [List.set]
          refine wpAnyH_take (i := 11) (v := ?v16) rfl (by kernel_rfl) (by kernel_rfl) (by kernel_rfl) (fun _ _ _ h => h) (Or.inl ⟨by kernel_rfl, ?h16⟩) hHeld ?_
          case h16 => intro u hSw; clear hSw; go_simp; try with_reducible rfl
          try simp only [List.getElem_toArray]
          try simp only [List.getElem_cons_succ]
          try simp only [List.getElem_cons_zero]
          try simp only [Act.put]
          try simp only [List.setIfInBounds_toArray]
          try simp only [List.set]
          refine wpAnyH_take (i := 12) (v := ?v17) rfl (by kernel_rfl) (by kernel_rfl) (by kernel_rfl) (fun _ _ _ h => h) (Or.inl ⟨by kernel_rfl, ?h17⟩) hHeld ?_
          case h17 => intro u hSw; clear hSw; go_simp; try with_reducible rfl
          try simp only [List.getElem_toArray]
          try simp only [List.getElem_cons_succ]
          try simp only [List.getElem_cons_zero]
          try simp only [Act.put]
          try simp only [List.setIfInBounds_toArray]
          try simp only [List.set]
          refine wpAnyH_take (i := 13) (v := ?v18) rfl (by kernel_rfl) (by kernel_rfl) (by kernel_rfl) (fun _ _ _ h => h) (Or.inl ⟨by kernel_rfl, ?h18⟩) hHeld ?_
          case h18 => intro u hSw; clear hSw; go_simp; try with_reducible rfl
          try simp only [List.getElem_toArray]
          try simp only [List.getElem_cons_succ]
          try simp only [List.getElem_cons_zero]
          try simp only [Act.put]
          try simp only [List.setIfInBounds_toArray]
          try simp only [List.set]
          refine wpAnyH_take (i := 14) (v := ?v19) rfl (by kernel_rfl) (by kernel_rfl) (by kernel_rfl) (fun _ _ _ h => h) (Or.inl ⟨by kernel_rfl, ?h19⟩) hHeld ?_
          case h19 => intro u hSw; clear hSw; go_simp; try with_reducible rfl
          try simp only [List.getElem_toArray]
          try simp only [List.getElem_cons_succ]
          try simp only [List.getElem_cons_zero]
          try simp only [Act.put]
          try simp only [List.setIfInBounds_toArray]
          try simp only [List.set]
          refine wpAnyH_done (by kernel_rfl) ?_ _
          go_wp2_with fail
          go_meet
          case rel => exact ⟨by first | rfl | rw [hm6], hHeld.2⟩
        · have d6 : (kd == 6) = false := by simp [h6]
          have HM : Hid (m6 = false) := by show _ = _; rw [← H6.out]; simp [h6]
          clear H6 h6
          refine wp_region_held_drew (S := fun V => (OpAt V ob kd tx t k v s mk ∧ V.cell? ⟨xb, off + j * 4 + 2, none⟩ = some (.slice ma ml mc)) ∧ Below w5.heap.size w5 V) (by kernel_rfl) ⟨⟨HOp.out _ (gy.trans ((Below.refl _ w5).drew.mono gy.size)), HXm.out _ (Below.refl _ w5).drew⟩, (Below.refl _ w5).drew⟩ (fun hHeld => ?_)
          generalize World.drew _ = D0 at hHeld ⊢
          refine wpAnyH_take (i := 0) (v := ?v20) rfl (by kernel_rfl) (by kernel_rfl) (by kernel_rfl) (fun _ _ _ h => h) (Or.inl ⟨by kernel_rfl, ?h20⟩) hHeld ?_
          case h20 => intro u hSw; clear hSw; go_simp; try with_reducible rfl
          try simp only [List.getElem_toArray]
          try simp only [List.getElem_cons_succ]
          try simp only [List.getElem_cons_zero]
          try simp only [Act.put]
          try simp only [List.setIfInBounds_toArray]
          try simp only [List.set]
          refine wpAnyH_take (i := 1) (v := ?v21) rfl (by kernel_rfl) (by kernel_rfl) (by kernel_rfl) (fun _ _ _ h => h) (Or.inl ⟨by kernel_rfl, ?h21⟩) hHeld ?_
          case h21 => intro u hSw; (obtain ⟨⟨q0, q1, q2, q3, q4, q5, q6⟩, z2⟩ := hSw.1); clear hSw; go_simp; try with_reducible rfl
          try simp only [List.getElem_toArray]
          try simp only [List.getElem_cons_succ]
          try simp only [List.getElem_cons_zero]
          try simp only [Act.put]
          try simp only [List.setIfInBounds_toArray]
          try simp only [List.set]
          refine wpAnyH_take (i := 2) (v := ?v22) rfl (by kernel_rfl) (by kernel_rfl) (by kernel_rfl) (fun _ _ _ h => h) (Or.inl ⟨by kernel_rfl, ?h22⟩) hHeld ?_
          case h22 => intro u hSw; clear hSw; go_simp; try with_reducible rfl
          try simp only [List.getElem_toArray]
          try simp only [List.getElem_cons_succ]
          try simp only [List.getElem_cons_zero]
          try simp only [Act.put]
          try simp only [List.setIfInBounds_toArray]
          try simp only [List.set]
          refine wpAnyH_take (i := 3) (v := ?v23) rfl (by kernel_rfl) (by kernel_rfl) (by kernel_rfl) (fun _ _ _ h => h) (Or.inl ⟨by kernel_rfl, ?h23⟩) hHeld ?_
          case h23 => intro u hSw; clear hSw; go_simp; try with_reducible rfl
          try simp only [List.getElem_toArray]
          try simp only [List.getElem_cons_succ]
          try simp only [List.getElem_cons_zero]
          try simp only [Act.put]
          try simp only [List.setIfInBounds_toArray]
          try simp only [List.set]
          refine wpAnyH_take (i := 4) (v := undef) rfl (by kernel_rfl) (by kernel_rfl) (by kernel_rfl) (fun _ _ _ h => h) (Or.inr ⟨by kernel_rfl, rfl⟩) hHeld ?_
          try simp only [List.getElem_toArray]
          try simp only [List.getElem_cons_succ]
          try simp only [List.getElem_cons_zero]
          try simp only [Act.put]
          try simp only [List.setIfInBounds_toArray]
          try simp only [List.set]
          refine wpAnyH_take (i := 5) (v := undef) rfl (by kernel_rfl) (by kernel_rfl) (by kernel_rfl) (fun _ _ _ h => h) (Or.inr ⟨by kernel_rfl, rfl⟩) hHeld ?_
          try simp only [List.getElem_toArray]
          try simp only [List.getElem_cons_succ]
          try simp only [List.getElem_cons_zero]
          try simp only [Act.put]
          try simp only [List.setIfInBounds_toArray]
          try simp only [List.set]
          refine wpAnyH_take (i := 6) (v := undef) rfl (by kernel_rfl) (by kernel_rfl) (by kernel_rfl) (fun _ _ _ h => h) (Or.inr ⟨by kernel_rfl, rfl⟩) hHeld ?_
          try simp only [List.getElem_toArray]
          try simp only [List.getElem_cons_succ]
          try simp only [List.getElem_cons_zero]
          try simp only [Act.put]
          try simp only [List.setIfInBounds_toArray]
          try simp only [List.set]
          refine wpAnyH_take (i := 7) (v := undef) rfl (by kernel_rfl) (by kernel_rfl) (by kernel_rfl) (fun _ _ _ h => h) (Or.inr ⟨by kernel_rfl, rfl⟩) hHeld ?_
          try simp only [List.getElem_toArray]
          try simp only [List.getElem_cons_succ]
          try simp only [List.getElem_cons_zero]
          try simp only [Act.put]
          try simp only [List.setIfInBounds_toArray]
          try simp only [List.set]
          refine wpAnyH_take (i := 8) (v := undef) rfl (by kernel_rfl) (by kernel_rfl) (by kernel_rfl) (fun _ _ _ h => h) (Or.inr ⟨by kernel_rfl, rfl⟩) hHeld ?_
          try simp only [List.getElem_toArray]
          try simp only [List.getElem_cons_succ]
          try simp only [List.getElem_cons_zero]
          try simp only [Act.put]
          try simp only [List.setIfInBounds_toArray]
          try simp only [List.set]
          refine wpAnyH_take (i := 9) (v := undef) rfl (by kernel_rfl) (by kernel_rfl) (by kernel_rfl) (fun _ _ _ h => h) (Or.inr ⟨by kernel_rfl, rfl⟩) hHeld ?_
          try simp only [List.getElem_toArray]
          try simp only [List.getElem_cons_succ]
          try simp only [List.getElem_cons_zero]
          try simp only [Act.put]
          try simp only [List.setIfInBounds_toArray]
          try simp only [List.set]
          refine wpAnyH_take (i := 10) (v := undef) rfl (by kernel_rfl) (by kernel_rfl) (by kernel_rfl) (fun _ _ _ h => h) (Or.inr ⟨by kernel_rfl, rfl⟩) hHeld ?_
          try simp only [List.getElem_toArray]
          try simp only [List.getElem_cons_succ]
          try simp only [List.getElem_cons_zero]
          try simp only [Act.put]
          try simp only [List.setIfInBounds_toArray]
          try simp only [List.set]
          refine wpAnyH_take (i := 11) (v := undef) rfl (by kernel_rfl) (by kernel_rfl) (by kernel_rfl) (fun _ _ _ h => h) (Or.inr ⟨by kernel_rfl, rfl⟩) hHeld ?_
          try simp only [List.getElem_toArray]
          try simp only [List.getElem_cons_succ]
          try simp only [List.getElem_cons_zero]
          try simp only [Act.put]
          try simp only [List.setIfInBounds_toArray]
          try simp only [List.set]
          refine wpAnyH_take (i := 12) (v := undef) rfl (by kernel_rfl) (by kernel_rfl) (by kernel_rfl) (fun _ _ _ h => h) (Or.inr ⟨by kernel_rfl, rfl⟩) hHeld ?_
          try simp only [List.getElem_toArray]
          try simp only [List.getElem_cons_succ]
          try simp only [List.getElem_cons_zero]
          try simp only [Act.put]
          try simp only [List.setIfInBounds_toArray]
          try simp only [List.set]
          refine wpAnyH_take (i := 13) (v := ?v24) rfl (by kernel_rfl) (by kernel_rfl) (by kernel_rfl) (fun _ _ _ h => h) (Or.inl ⟨by kernel_rfl, ?h24⟩) hHeld ?_
          case h24 => intro u hSw; clear hSw; go_simp; try with_reducible rfl
          try simp only [List.getElem_toArray]
          try simp only [List.getElem_cons_succ]
          try simp only [List.getElem_cons_zero]
          try simp only [Act.put]
          try simp only [List.setIfInBounds_toArray]
          try simp only [List.set]
          refine wpAnyH_take (i := 14) (v := ?v25) rfl (by kernel_rfl) (by kernel_rfl) (by kernel_rfl) (fun _ _ _ h => h) (Or.inl ⟨by kernel_rfl, ?h25⟩) hHeld ?_
          case h25 => intro u hSw; clear hSw; go_simp; try with_reducible rfl
          try simp only [List.getElem_toArray]
          try simp only [List.getElem_cons_succ]
          try simp only [List.getElem_cons_zero]
          try simp only [Act.put]
          try simp only [List.setIfInBounds_toArray]
          try simp only [List.set]
          refine wpAnyH_done (by kernel_rfl) ?_ _
          go_wp2_with fail
          go_meet
          case rel => exact ⟨by rw [HM.out], hHeld.2⟩
      case rest =>
        obtain ⟨rfl, g6⟩ := hcut
        obtain ⟨w6, hw6⟩ : ∃ w6, w6 = wc := ⟨_, rfl⟩
        subst hw6
        have g := g.trans (g6.mono g.size)
        have gy := gy.trans (g6.mono gy.size)
        clear g6 H6 HXm
        cases m6
        case true =>
          have HV : Hid (R = .agg #[.int .i64 3, .bool false, .bool false, .int .i64 0, .int .i64 0, .int .i64 0, .string ⟨#[]⟩, .bool false, .int .i64 0, .int .i64 0, .int .i64 0, .string ⟨#[]⟩]) := by show _ = _; rw [HRe.out]; rfl
          clear HRw HCk2 HRe
          obtain ⟨o0, o1, o2, o3, o4, o5, o6, o7, o8, o9, o10, o11, p0, p1, p2, p3, p4, p5, p6, p7, p8, p9, p10, p11⟩ := HOb.out w6 gy
          go_wp2_with fail
          refine bodyPost_ret (v := .agg #[.int .i64 3, .bool false, .bool false, .int .i64 0, .int .i64 0, .int .i64 0, .string ⟨#[]⟩, .bool false, .int .i64 0, .int .i64 0, .int .i64 0, .string ⟨#[]⟩]) (by simp [results, Tryz.results11, go_sem, *]) rfl ?_
          exact ⟨by rw [HV.out], by go_grown⟩
        have HRe : Hid (R = if rb = true then _ else crVal 0 false zC) := HRe.out
        obtain ⟨c0, c1, c2, c3, c4, c5, c6⟩ := HOp.out w6 gy
        have hcon := HRw.out w6
        clear HRw
        go_wp2_with fail
        refine hcon.mono ?_
        rintro e w7 ⟨rfl, g7⟩
        clear hcon c0 c1 c2 c3 c4 c5 c6
        have g := g.trans (g7.mono g.size)
        have gy := gy.trans (g7.mono gy.size)
        clear g7
        cases rb
        case false =>
          have HV : Hid (R = .agg #[.int .i64 0, .bool false, .bool false, .int .i64 0, .int .i64 0, .int .i64 0, .string ⟨#[]⟩, .bool false, .int .i64 0, .int .i64 0, .int .i64 0, .string ⟨#[]⟩]) := by show _ = _; rw [HRe.out]; rfl
          clear HCk2 HRe
          obtain ⟨o0, o1, o2, o3, o4, o5, o6, o7, o8, o9, o10, o11, p0, p1, p2, p3, p4, p5, p6, p7, p8, p9, p10, p11⟩ := HOb.out w7 gy
          go_wp2_with fail
          refine bodyPost_ret (v := .agg #[.int .i64 0, .bool false, .bool false, .int .i64 0, .int .i64 0, .int .i64 0, .string ⟨#[]⟩, .bool false, .int .i64 0, .int .i64 0, .int .i64 0, .string ⟨#[]⟩]) (by simp [results, Tryz.results11, go_sem, *]) rfl ?_
          exact ⟨by rw [HV.out], by go_grown⟩
        have HV : Hid (R = _) := HRe.out.trans (if_pos rfl)
        clear HRe
        obtain ⟨c0, c1, c2, c3, c4, c5, c6⟩ := HOp.out w7 gy
        have hcon := HCk2.out w7 g rfl
        clear HCk2
        go_wp2_with fail
        refine hcon.mono ?_
        rintro e w8 ⟨rfl, g8⟩
        clear hcon c0 c1 c2 c3 c4 c5 c6
        have g := g.trans (g8.mono g.size)
        have gy := gy.trans (g8.mono gy.size)
        clear g8
        obtain ⟨o0, o1, o2, o3, o4, o5, o6, o7, o8, o9, o10, o11, p0, p1, p2, p3, p4, p5, p6, p7, p8, p9, p10, p11⟩ := HOb.out w8 gy
        go_wp2_with fail
        refine bodyPost_ret (v := .agg #[.int .i64 rq, .bool rt, .bool cw, .int .i64 bt, .int .i64 bk, .int .i64 bv, .string bs, .bool ci, .int .i64 yt, .int .i64 yk, .int .i64 yv, .string ys]) (by simp [results, Tryz.results11, go_sem, *]) rfl ?_
        exact ⟨by rw [HV.out], by go_grown⟩

end Go.Proofs.YtpjlpnaamkbicaaGreatDoor
