/-
  What CheckOp tells; the model's l10At, l10Check, CheckOp.
-/
import Derived.Test.YtpjlpnaamkbicaaGreatDoorCKCkr
import Derived.Deep.CutRange

namespace Go.Proofs.YtpjlpnaamkbicaaGreatDoor
open Go.RowKit Go.Maps
set_option linter.unusedVariables false
set_option maxRecDepth 20000

def atJ (xs : List TxV) (tx : Int) : Int := ixT (fun i : Int => decide (i = tx)) xs
def mrkN (xs : List TxV) (tx : Int) : Nat := (xs.getD (atJ xs tx).toNat ⟨0, [], [], []⟩).m.length
/-- What CheckOp tells of an op without a fault. -/
def ckC (rs : List Rw) (xs : List TxV) (kd tx t k v : Int) (s : ByteArray) (mk : Int) : Value :=
  if kd = 1 then (if 4 ≤ xs.length then crVal 2 false zC else crVal 0 false zC) else if kd = 9 then crVal 0 false zC else if atJ xs tx < 0 then crVal 4 false zC else if kd = 5 then (if 8 ≤ mrkN xs tx then crVal 2 false zC else crVal 0 false zC) else if kd = 6 then (if (mrkN xs tx : Int) ≤ mk then crVal 3 false zC else crVal 0 false zC) else if kd = 7 ∨ kd = 8 then crVal 0 false zC else ckR rs xs kd tx t k v s
theorem ckR_form (rs : List Rw) (xs : List TxV) (kd tx t k v : Int) (s : ByteArray) : ∃ q tn c, ckR rs xs kd tx t k v s = crVal q tn c := by
  unfold ckR
  split
  · exact ⟨_, _, _, rfl⟩
  · split
    · split
      · split
        · exact ⟨_, _, _, rfl⟩
        · split <;> exact ⟨_, _, _, rfl⟩
      · exact ⟨_, _, _, rfl⟩
    · exact ⟨_, _, _, rfl⟩

set_option maxHeartbeats 4000000 in
theorem l10At_any (a : Option Addr) (xs : List TxV) (n c : Nat) (t : Int) (w : World) (hn : xs.length = n) (hm : n ≤ 1048576) (hr : TxRd w a xs) :
    Calls Tryz.prog 47 #[.slice a n c, .int .i64 t] w fun e w' => e = .returned (.int .i64 (atJ xs t)) ∧ Below w.heap.size w w' := by
  have HN : Hid (xs.length = n) := hn
  have HR : Hid (∀ W, Below w.heap.size w W → TxRd W a xs) := fun W hW => hr.below hW (Nat.le_refl _)
  clear hn hr
  go_enter Tryz.func47, Tryz.ntmps47
  go_wp2_with fail
  go_loopw [5] (fun i wr => ∃ j : Nat, j ≤ n ∧ i = .int .i64 j ∧ Below w.heap.size w wr ∧ Hid (∀ x ∈ xs.take j, ((fun i : Int => decide (i = t)) x.id) = false)) (fun i _ => n - (intOf i).toNat)
  case atStart => exact ⟨0, Nat.zero_le _, rfl, Below.refl _ _, by intro x hx; simp at hx⟩
  case round =>
    obtain ⟨j, hj, rfl, gr, hA⟩ := hrel
    by_cases hlt : j < n
    · obtain ⟨x, hx⟩ := at_ltT (xs := xs) (i := j) (by rw [HN.out]; exact hlt)
      obtain ⟨b, off, ua, ma, la, uc, mc, lc, e0, Z⟩ := (HR.out wr gr).at hx
      obtain rfl := e0
      have hjn : (j : Int) < (n : Int) := by omega
      have HX : Hid (xs[j]? = some x) := hx
      clear hx
      obtain ⟨id, us, ms, ls⟩ := x
      obtain ⟨c0, -, -, -, -, -, -⟩ := Z
      dsimp only at c0
      by_cases he : id = t
      · have d : (id == t) = true := by simp [he]
        have HE : Hid (atJ xs t = (j : Int)) := ixT_yes xs j _ HX.out (by simp [he]) hA.out
        clear he
        go_wp2_with fail
        go_ret
        exact ⟨by rw [HE.out]; rfl, gr⟩
      · have d : (id == t) = false := by simp [he]
        have HA2 : Hid (∀ x ∈ xs.take (j + 1), ((fun i : Int => decide (i = t)) x.id) = false) := take_all hA.out HX.out (by simp [he])
        clear he
        go_wp2_with fail
        go_roundw
        case rel => exact ⟨j + 1, by omega, by go_num, gr, HA2⟩
        case measure => simp [intOf]; omega
    · have e : j = n := by omega
      subst e
      have HE : Hid (atJ xs t = -1) := ixT_no (take_whole HN.out hA.out)
      go_wp2_with fail
      go_ret
      exact ⟨by rw [HE.out]; rfl, gr⟩

set_option maxHeartbeats 16000000 in
theorem l10Check_any (ra : Option Addr) (rs : List Rw) (rn rc : Nat) (a : Option Addr) (xs : List TxV) (n c b : Nat) (kd tx t k v : Int) (s : ByteArray) (mk : Int) (w : World) (hrn : rs.length = rn) (hrm : rn ≤ 60) (hu : Uniq rs) (hrs : ∀ r ∈ rs, r.s.size ≤ 1048576) (hr : Rs rwE 4 w ra rs) (hn : xs.length = n) (hm : n ≤ 4) (hs : ∀ x ∈ xs, TxOk 1048576 x) (hx : TxRd w a xs) (ho : OpAt w b kd tx t k v s mk) (hkd : inW kd 1 9 = true) (hk0 : (kd = 2 ∨ kd = 3 ∨ kd = 4) → k ≠ 0) (hss : s.size ≤ 1048576) :
    Calls Tryz.prog 21 #[.slice ra rn rc, .slice a n c, .pointer (some ⟨b, 0, none⟩)] w fun e w' => e = .returned (ckC rs xs kd tx t k v s mk) ∧ Below w.heap.size w w' := by
  have lo := ho.lt
  have HO : Hid (∀ V, Below w.heap.size w V → OpAt V b kd tx t k v s mk) := fun V hV => ho.below hV lo
  have HAt : Hid (∀ V, Below w.heap.size w V → Calls Tryz.prog 47 #[.slice a n c, .int .i64 tx] V fun e w' => e = .returned (.int .i64 (atJ xs tx)) ∧ Below V.heap.size V w') := fun V hV => l10At_any a xs n c tx V hn (by omega) (hx.below hV (Nat.le_refl _))
  have HRo : Hid (∀ V, Below w.heap.size w V → (kd = 2 ∨ kd = 3 ∨ kd = 4) → (∃ q tn c, ckR rs xs kd tx t k v s = crVal q tn c) ∧ Calls Tryz.prog 48 #[.slice ra rn rc, .slice a n c, .pointer (some ⟨b, 0, none⟩)] V fun e w' => e = .returned (ckR rs xs kd tx t k v s) ∧ Below V.heap.size V w') := fun V hV h => ⟨ckR_form rs xs kd tx t k v s, l10CheckRow_any ra rs rn rc a xs n c b kd tx t k v s mk V hrn hrm hu hrs (hr.below hV (Nat.le_refl _)) hn hm hs (hx.below hV (Nat.le_refl _)) (ho.below hV lo) h (hk0 h) hss⟩
  have HBad : Hid (∀ (q : Int) V, Calls Tryz.prog 18 #[.int .i64 q] V fun e w' => e = .returned (.agg #[.int .i64 q, .bool false, .bool false, .int .i64 0, .int .i64 0, .int .i64 0, .string ⟨#[]⟩, .bool false, .int .i64 0, .int .i64 0, .int .i64 0, .string ⟨#[]⟩]) ∧ Below V.heap.size V w') := fun q V => l10Bad_any q V
  have HX : Hid (∀ V, Below w.heap.size w V → ¬ atJ xs tx < 0 → ∃ j : Nat, atJ xs tx = (j : Int) ∧ j < n ∧ ∃ b' off ma mc, a = some ⟨b', off, none⟩ ∧ V.cell? ⟨b', off + j * 4 + 2, none⟩ = some (.slice ma (mrkN xs tx) mc)) := fun V hV h => by
    obtain ⟨j, x, h1, h2, _⟩ := ixT_at (p := fun i : Int => decide (i = tx)) (xs := xs) (by unfold atJ at h; omega)
    obtain ⟨b', off, ua, ma, la, uc, mc, lc, ea, Z⟩ := (hx.below hV (Nat.le_refl _)).at h1
    refine ⟨j, h2, by rw [← hn]; exact (List.getElem?_eq_some_iff.1 h1).1, b', off, ma, mc, ea, ?_⟩
    have e : mrkN xs tx = x.m.length := by unfold mrkN atJ; rw [h2, Int.toNat_natCast, List.getD_eq_getElem?_getD, h1]; rfl
    rw [e]
    exact Z.c2
  have HE : Hid (ckC rs xs kd tx t k v s mk = if kd = 1 then (if 4 ≤ n then crVal 2 false zC else crVal 0 false zC) else if kd = 9 then crVal 0 false zC else if atJ xs tx < 0 then crVal 4 false zC else if kd = 5 then (if 8 ≤ mrkN xs tx then crVal 2 false zC else crVal 0 false zC) else if kd = 6 then (if (mrkN xs tx : Int) ≤ mk then crVal 3 false zC else crVal 0 false zC) else if kd = 7 ∨ kd = 8 then crVal 0 false zC else ckR rs xs kd tx t k v s) := by show _ = _; unfold ckC; rw [hn]
  obtain ⟨R, hR⟩ : ∃ R, ckC rs xs kd tx t k v s mk = R := ⟨_, rfl⟩
  rw [hR] at HE ⊢
  clear hrn hrm hu hrs hr hn hs hx ho hk0 hss hR
  generalize atJ xs tx = at' at HAt HX HE
  generalize mrkN xs tx = ml at HX HE
  rcases inW_nine hkd with hk | hk | hk | hk | hk | hk | hk | hk | hk
  all_goals clear hkd
  · subst hk
    go_enter Tryz.func21, Tryz.ntmps21
    go_upto_region 1 with (fail)
    generalize hY : World.alloc _ _ = Y
    have gY : Below w.heap.size w Y := by rw [← hY]; go_grown
    have O : R12 Y w.heap.size := by rw [← hY]; exact ⟨by simp [go_sem], by simp [go_sem], by simp [go_sem], by simp [go_sem], by simp [go_sem], by simp [go_sem], by simp [go_sem], by simp [go_sem], by simp [go_sem], by simp [go_sem], by simp [go_sem], by simp [go_sem], by simp [go_sem], by simp [go_sem], by simp [go_sem], by simp [go_sem], by simp [go_sem], by simp [go_sem], by simp [go_sem], by simp [go_sem], by simp [go_sem], by simp [go_sem], by simp [go_sem], by simp [go_sem]⟩
    clear hY
    obtain ⟨ob, hob⟩ : ∃ ob, w.heap.size = ob := ⟨_, rfl⟩
    have hwo : w.heap.size ≤ ob := by omega
    rw [hob] at O
    simp only [hob]
    have HOB : Hid (w.heap.size = ob) := hob
    clear hob
    have lO := O.lt
    have HOb : Hid (∀ V, Below Y.heap.size Y V → R12 V ob) := fun V hV => O.below hV lO
    clear O
    have gy : Below Y.heap.size Y Y := Below.refl _ _
    have g := gY
    obtain ⟨q0, q1, q2, q3, q4, q5, q6⟩ := HO.out Y g
    by_cases h4 : 4 ≤ n
    · have d4 : (4 : Int) ≤ (n : Int) := by omega
      have HV : Hid (R = .agg #[.int .i64 2, .bool false, .bool false, .int .i64 0, .int .i64 0, .int .i64 0, .string ⟨#[]⟩, .bool false, .int .i64 0, .int .i64 0, .int .i64 0, .string ⟨#[]⟩]) := by show _ = _; rw [HE.out]; simp [h4, crVal, zC, zR]
      clear HE HAt HRo HX h4
      have hcon := HBad.out 2 Y
      go_wp2_with fail
      refine hcon.mono ?_
      rintro e w9 ⟨rfl, g9⟩
      have g := g.trans (g9.mono g.size)
      have gy := gy.trans (g9.mono gy.size)
      clear hcon g9
      obtain ⟨z0, z1, z2, z3, z4, z5, z6, z7, z8, z9, z10, z11, f0, f1, f2, f3, f4, f5, f6, f7, f8, f9, f10, f11⟩ := HOb.out w9 gy
      go_wp2_with fail
      refine bodyPost_ret (v := .agg #[.int .i64 2, .bool false, .bool false, .int .i64 0, .int .i64 0, .int .i64 0, .string ⟨#[]⟩, .bool false, .int .i64 0, .int .i64 0, .int .i64 0, .string ⟨#[]⟩]) (by simp [results, Tryz.results21, go_sem, *]) rfl ?_
      exact ⟨by rw [HV.out], by go_grown⟩
    · have d4 : ¬ (4 : Int) ≤ (n : Int) := by omega
      have HV : Hid (R = .agg #[.int .i64 0, .bool false, .bool false, .int .i64 0, .int .i64 0, .int .i64 0, .string ⟨#[]⟩, .bool false, .int .i64 0, .int .i64 0, .int .i64 0, .string ⟨#[]⟩]) := by show _ = _; rw [HE.out]; simp [h4, crVal, zC, zR]
      clear HE HAt HRo HX h4
      obtain ⟨z0, z1, z2, z3, z4, z5, z6, z7, z8, z9, z10, z11, f0, f1, f2, f3, f4, f5, f6, f7, f8, f9, f10, f11⟩ := HOb.out Y gy
      go_wp2_with fail
      refine bodyPost_ret (v := .agg #[.int .i64 0, .bool false, .bool false, .int .i64 0, .int .i64 0, .int .i64 0, .string ⟨#[]⟩, .bool false, .int .i64 0, .int .i64 0, .int .i64 0, .string ⟨#[]⟩]) (by simp [results, Tryz.results21, go_sem, *]) rfl ?_
      exact ⟨by rw [HV.out], by go_grown⟩
  · subst hk
    go_enter Tryz.func21, Tryz.ntmps21
    go_upto_region 1 with (fail)
    generalize hY : World.alloc _ _ = Y
    have gY : Below w.heap.size w Y := by rw [← hY]; go_grown
    have O : R12 Y w.heap.size := by rw [← hY]; exact ⟨by simp [go_sem], by simp [go_sem], by simp [go_sem], by simp [go_sem], by simp [go_sem], by simp [go_sem], by simp [go_sem], by simp [go_sem], by simp [go_sem], by simp [go_sem], by simp [go_sem], by simp [go_sem], by simp [go_sem], by simp [go_sem], by simp [go_sem], by simp [go_sem], by simp [go_sem], by simp [go_sem], by simp [go_sem], by simp [go_sem], by simp [go_sem], by simp [go_sem], by simp [go_sem], by simp [go_sem]⟩
    clear hY
    obtain ⟨ob, hob⟩ : ∃ ob, w.heap.size = ob := ⟨_, rfl⟩
    have hwo : w.heap.size ≤ ob := by omega
    rw [hob] at O
    simp only [hob]
    have HOB : Hid (w.heap.size = ob) := hob
    clear hob
    have lO := O.lt
    have HOb : Hid (∀ V, Below Y.heap.size Y V → R12 V ob) := fun V hV => O.below hV lO
    clear O
    have gy : Below Y.heap.size Y Y := Below.refl _ _
    have g := gY
    obtain ⟨q0, q1, q2, q3, q4, q5, q6⟩ := HO.out Y g
    have hcon := HAt.out Y g
    clear HAt
    go_wp2_with fail
    refine hcon.mono ?_
    rintro e w1 ⟨rfl, g1⟩
    have g := g.trans (g1.mono g.size)
    have gy := gy.trans (g1.mono gy.size)
    clear hcon g1 q0 q1 q2 q3 q4 q5 q6
    obtain ⟨q0, q1, q2, q3, q4, q5, q6⟩ := HO.out w1 g
    by_cases hat : at' < 0
    case pos =>
      have HV : Hid (R = .agg #[.int .i64 4, .bool false, .bool false, .int .i64 0, .int .i64 0, .int .i64 0, .string ⟨#[]⟩, .bool false, .int .i64 0, .int .i64 0, .int .i64 0, .string ⟨#[]⟩]) := by show _ = _; rw [HE.out]; simp [hat, crVal, zC, zR]
      clear HE HRo HX
      have hcon := HBad.out 4 w1
      go_wp2_with fail
      refine hcon.mono ?_
      rintro e w9 ⟨rfl, g9⟩
      have g := g.trans (g9.mono g.size)
      have gy := gy.trans (g9.mono gy.size)
      clear hcon g9
      obtain ⟨z0, z1, z2, z3, z4, z5, z6, z7, z8, z9, z10, z11, f0, f1, f2, f3, f4, f5, f6, f7, f8, f9, f10, f11⟩ := HOb.out w9 gy
      go_wp2_with fail
      refine bodyPost_ret (v := .agg #[.int .i64 4, .bool false, .bool false, .int .i64 0, .int .i64 0, .int .i64 0, .string ⟨#[]⟩, .bool false, .int .i64 0, .int .i64 0, .int .i64 0, .string ⟨#[]⟩]) (by simp [results, Tryz.results21, go_sem, *]) rfl ?_
      exact ⟨by rw [HV.out], by go_grown⟩
    have hat' : ¬ at' < 0 := hat
    have HV : Hid (R = ckR rs xs 2 tx t k v s) := by show _ = _; rw [HE.out]; simp [hat]
    have hcon := HRo.out w1 g (by simp)
    clear HE HRo HX hat
    generalize ckR rs xs 2 tx t k v s = RR at hcon HV
    obtain ⟨qq, tn, ⟨cw, ⟨bt, bk, bv, bs⟩, ci, ⟨at2, ak, av, sa⟩⟩, hRR⟩ := hcon.1
    have hcon := hcon.2
    subst hRR
    dsimp only [crVal] at hcon HV
    go_wp2_with fail
    refine hcon.mono ?_
    rintro e w9 ⟨rfl, g9⟩
    have g := g.trans (g9.mono g.size)
    have gy := gy.trans (g9.mono gy.size)
    clear hcon g9 q0 q1 q2 q3 q4 q5 q6
    obtain ⟨z0, z1, z2, z3, z4, z5, z6, z7, z8, z9, z10, z11, f0, f1, f2, f3, f4, f5, f6, f7, f8, f9, f10, f11⟩ := HOb.out w9 gy
    go_wp2_with fail
    refine bodyPost_ret (v := .agg #[.int .i64 qq, .bool tn, .bool cw, .int .i64 bt, .int .i64 bk, .int .i64 bv, .string bs, .bool ci, .int .i64 at2, .int .i64 ak, .int .i64 av, .string sa]) (by simp [results, Tryz.results21, go_sem, *]) rfl ?_
    exact ⟨by rw [HV.out], by go_grown⟩
  · subst hk
    go_enter Tryz.func21, Tryz.ntmps21
    go_upto_region 1 with (fail)
    generalize hY : World.alloc _ _ = Y
    have gY : Below w.heap.size w Y := by rw [← hY]; go_grown
    have O : R12 Y w.heap.size := by rw [← hY]; exact ⟨by simp [go_sem], by simp [go_sem], by simp [go_sem], by simp [go_sem], by simp [go_sem], by simp [go_sem], by simp [go_sem], by simp [go_sem], by simp [go_sem], by simp [go_sem], by simp [go_sem], by simp [go_sem], by simp [go_sem], by simp [go_sem], by simp [go_sem], by simp [go_sem], by simp [go_sem], by simp [go_sem], by simp [go_sem], by simp [go_sem], by simp [go_sem], by simp [go_sem], by simp [go_sem], by simp [go_sem]⟩
    clear hY
    obtain ⟨ob, hob⟩ : ∃ ob, w.heap.size = ob := ⟨_, rfl⟩
    have hwo : w.heap.size ≤ ob := by omega
    rw [hob] at O
    simp only [hob]
    have HOB : Hid (w.heap.size = ob) := hob
    clear hob
    have lO := O.lt
    have HOb : Hid (∀ V, Below Y.heap.size Y V → R12 V ob) := fun V hV => O.below hV lO
    clear O
    have gy : Below Y.heap.size Y Y := Below.refl _ _
    have g := gY
    obtain ⟨q0, q1, q2, q3, q4, q5, q6⟩ := HO.out Y g
    have hcon := HAt.out Y g
    clear HAt
    go_wp2_with fail
    refine hcon.mono ?_
    rintro e w1 ⟨rfl, g1⟩
    have g := g.trans (g1.mono g.size)
    have gy := gy.trans (g1.mono gy.size)
    clear hcon g1 q0 q1 q2 q3 q4 q5 q6
    obtain ⟨q0, q1, q2, q3, q4, q5, q6⟩ := HO.out w1 g
    by_cases hat : at' < 0
    case pos =>
      have HV : Hid (R = .agg #[.int .i64 4, .bool false, .bool false, .int .i64 0, .int .i64 0, .int .i64 0, .string ⟨#[]⟩, .bool false, .int .i64 0, .int .i64 0, .int .i64 0, .string ⟨#[]⟩]) := by show _ = _; rw [HE.out]; simp [hat, crVal, zC, zR]
      clear HE HRo HX
      have hcon := HBad.out 4 w1
      go_wp2_with fail
      refine hcon.mono ?_
      rintro e w9 ⟨rfl, g9⟩
      have g := g.trans (g9.mono g.size)
      have gy := gy.trans (g9.mono gy.size)
      clear hcon g9
      obtain ⟨z0, z1, z2, z3, z4, z5, z6, z7, z8, z9, z10, z11, f0, f1, f2, f3, f4, f5, f6, f7, f8, f9, f10, f11⟩ := HOb.out w9 gy
      go_wp2_with fail
      refine bodyPost_ret (v := .agg #[.int .i64 4, .bool false, .bool false, .int .i64 0, .int .i64 0, .int .i64 0, .string ⟨#[]⟩, .bool false, .int .i64 0, .int .i64 0, .int .i64 0, .string ⟨#[]⟩]) (by simp [results, Tryz.results21, go_sem, *]) rfl ?_
      exact ⟨by rw [HV.out], by go_grown⟩
    have hat' : ¬ at' < 0 := hat
    have HV : Hid (R = ckR rs xs 3 tx t k v s) := by show _ = _; rw [HE.out]; simp [hat]
    have hcon := HRo.out w1 g (by simp)
    clear HE HRo HX hat
    generalize ckR rs xs 3 tx t k v s = RR at hcon HV
    obtain ⟨qq, tn, ⟨cw, ⟨bt, bk, bv, bs⟩, ci, ⟨at2, ak, av, sa⟩⟩, hRR⟩ := hcon.1
    have hcon := hcon.2
    subst hRR
    dsimp only [crVal] at hcon HV
    go_wp2_with fail
    refine hcon.mono ?_
    rintro e w9 ⟨rfl, g9⟩
    have g := g.trans (g9.mono g.size)
    have gy := gy.trans (g9.mono gy.size)
    clear hcon g9 q0 q1 q2 q3 q4 q5 q6
    obtain ⟨z0, z1, z2, z3, z4, z5, z6, z7, z8, z9, z10, z11, f0, f1, f2, f3, f4, f5, f6, f7, f8, f9, f10, f11⟩ := HOb.out w9 gy
    go_wp2_with fail
    refine bodyPost_ret (v := .agg #[.int .i64 qq, .bool tn, .bool cw, .int .i64 bt, .int .i64 bk, .int .i64 bv, .string bs, .bool ci, .int .i64 at2, .int .i64 ak, .int .i64 av, .string sa]) (by simp [results, Tryz.results21, go_sem, *]) rfl ?_
    exact ⟨by rw [HV.out], by go_grown⟩
  · subst hk
    go_enter Tryz.func21, Tryz.ntmps21
    go_upto_region 1 with (fail)
    generalize hY : World.alloc _ _ = Y
    have gY : Below w.heap.size w Y := by rw [← hY]; go_grown
    have O : R12 Y w.heap.size := by rw [← hY]; exact ⟨by simp [go_sem], by simp [go_sem], by simp [go_sem], by simp [go_sem], by simp [go_sem], by simp [go_sem], by simp [go_sem], by simp [go_sem], by simp [go_sem], by simp [go_sem], by simp [go_sem], by simp [go_sem], by simp [go_sem], by simp [go_sem], by simp [go_sem], by simp [go_sem], by simp [go_sem], by simp [go_sem], by simp [go_sem], by simp [go_sem], by simp [go_sem], by simp [go_sem], by simp [go_sem], by simp [go_sem]⟩
    clear hY
    obtain ⟨ob, hob⟩ : ∃ ob, w.heap.size = ob := ⟨_, rfl⟩
    have hwo : w.heap.size ≤ ob := by omega
    rw [hob] at O
    simp only [hob]
    have HOB : Hid (w.heap.size = ob) := hob
    clear hob
    have lO := O.lt
    have HOb : Hid (∀ V, Below Y.heap.size Y V → R12 V ob) := fun V hV => O.below hV lO
    clear O
    have gy : Below Y.heap.size Y Y := Below.refl _ _
    have g := gY
    obtain ⟨q0, q1, q2, q3, q4, q5, q6⟩ := HO.out Y g
    have hcon := HAt.out Y g
    clear HAt
    go_wp2_with fail
    refine hcon.mono ?_
    rintro e w1 ⟨rfl, g1⟩
    have g := g.trans (g1.mono g.size)
    have gy := gy.trans (g1.mono gy.size)
    clear hcon g1 q0 q1 q2 q3 q4 q5 q6
    obtain ⟨q0, q1, q2, q3, q4, q5, q6⟩ := HO.out w1 g
    by_cases hat : at' < 0
    case pos =>
      have HV : Hid (R = .agg #[.int .i64 4, .bool false, .bool false, .int .i64 0, .int .i64 0, .int .i64 0, .string ⟨#[]⟩, .bool false, .int .i64 0, .int .i64 0, .int .i64 0, .string ⟨#[]⟩]) := by show _ = _; rw [HE.out]; simp [hat, crVal, zC, zR]
      clear HE HRo HX
      have hcon := HBad.out 4 w1
      go_wp2_with fail
      refine hcon.mono ?_
      rintro e w9 ⟨rfl, g9⟩
      have g := g.trans (g9.mono g.size)
      have gy := gy.trans (g9.mono gy.size)
      clear hcon g9
      obtain ⟨z0, z1, z2, z3, z4, z5, z6, z7, z8, z9, z10, z11, f0, f1, f2, f3, f4, f5, f6, f7, f8, f9, f10, f11⟩ := HOb.out w9 gy
      go_wp2_with fail
      refine bodyPost_ret (v := .agg #[.int .i64 4, .bool false, .bool false, .int .i64 0, .int .i64 0, .int .i64 0, .string ⟨#[]⟩, .bool false, .int .i64 0, .int .i64 0, .int .i64 0, .string ⟨#[]⟩]) (by simp [results, Tryz.results21, go_sem, *]) rfl ?_
      exact ⟨by rw [HV.out], by go_grown⟩
    have hat' : ¬ at' < 0 := hat
    have HV : Hid (R = ckR rs xs 4 tx t k v s) := by show _ = _; rw [HE.out]; simp [hat]
    have hcon := HRo.out w1 g (by simp)
    clear HE HRo HX hat
    generalize ckR rs xs 4 tx t k v s = RR at hcon HV
    obtain ⟨qq, tn, ⟨cw, ⟨bt, bk, bv, bs⟩, ci, ⟨at2, ak, av, sa⟩⟩, hRR⟩ := hcon.1
    have hcon := hcon.2
    subst hRR
    dsimp only [crVal] at hcon HV
    go_wp2_with fail
    refine hcon.mono ?_
    rintro e w9 ⟨rfl, g9⟩
    have g := g.trans (g9.mono g.size)
    have gy := gy.trans (g9.mono gy.size)
    clear hcon g9 q0 q1 q2 q3 q4 q5 q6
    obtain ⟨z0, z1, z2, z3, z4, z5, z6, z7, z8, z9, z10, z11, f0, f1, f2, f3, f4, f5, f6, f7, f8, f9, f10, f11⟩ := HOb.out w9 gy
    go_wp2_with fail
    refine bodyPost_ret (v := .agg #[.int .i64 qq, .bool tn, .bool cw, .int .i64 bt, .int .i64 bk, .int .i64 bv, .string bs, .bool ci, .int .i64 at2, .int .i64 ak, .int .i64 av, .string sa]) (by simp [results, Tryz.results21, go_sem, *]) rfl ?_
    exact ⟨by rw [HV.out], by go_grown⟩
  · subst hk
    go_enter Tryz.func21, Tryz.ntmps21
    go_upto_region 1 with (fail)
    generalize hY : World.alloc _ _ = Y
    have gY : Below w.heap.size w Y := by rw [← hY]; go_grown
    have O : R12 Y w.heap.size := by rw [← hY]; exact ⟨by simp [go_sem], by simp [go_sem], by simp [go_sem], by simp [go_sem], by simp [go_sem], by simp [go_sem], by simp [go_sem], by simp [go_sem], by simp [go_sem], by simp [go_sem], by simp [go_sem], by simp [go_sem], by simp [go_sem], by simp [go_sem], by simp [go_sem], by simp [go_sem], by simp [go_sem], by simp [go_sem], by simp [go_sem], by simp [go_sem], by simp [go_sem], by simp [go_sem], by simp [go_sem], by simp [go_sem]⟩
    clear hY
    obtain ⟨ob, hob⟩ : ∃ ob, w.heap.size = ob := ⟨_, rfl⟩
    have hwo : w.heap.size ≤ ob := by omega
    rw [hob] at O
    simp only [hob]
    have HOB : Hid (w.heap.size = ob) := hob
    clear hob
    have lO := O.lt
    have HOb : Hid (∀ V, Below Y.heap.size Y V → R12 V ob) := fun V hV => O.below hV lO
    clear O
    have gy : Below Y.heap.size Y Y := Below.refl _ _
    have g := gY
    obtain ⟨q0, q1, q2, q3, q4, q5, q6⟩ := HO.out Y g
    have hcon := HAt.out Y g
    clear HAt
    go_wp2_with fail
    refine hcon.mono ?_
    rintro e w1 ⟨rfl, g1⟩
    have g := g.trans (g1.mono g.size)
    have gy := gy.trans (g1.mono gy.size)
    clear hcon g1 q0 q1 q2 q3 q4 q5 q6
    obtain ⟨q0, q1, q2, q3, q4, q5, q6⟩ := HO.out w1 g
    by_cases hat : at' < 0
    case pos =>
      have HV : Hid (R = .agg #[.int .i64 4, .bool false, .bool false, .int .i64 0, .int .i64 0, .int .i64 0, .string ⟨#[]⟩, .bool false, .int .i64 0, .int .i64 0, .int .i64 0, .string ⟨#[]⟩]) := by show _ = _; rw [HE.out]; simp [hat, crVal, zC, zR]
      clear HE HRo HX
      have hcon := HBad.out 4 w1
      go_wp2_with fail
      refine hcon.mono ?_
      rintro e w9 ⟨rfl, g9⟩
      have g := g.trans (g9.mono g.size)
      have gy := gy.trans (g9.mono gy.size)
      clear hcon g9
      obtain ⟨z0, z1, z2, z3, z4, z5, z6, z7, z8, z9, z10, z11, f0, f1, f2, f3, f4, f5, f6, f7, f8, f9, f10, f11⟩ := HOb.out w9 gy
      go_wp2_with fail
      refine bodyPost_ret (v := .agg #[.int .i64 4, .bool false, .bool false, .int .i64 0, .int .i64 0, .int .i64 0, .string ⟨#[]⟩, .bool false, .int .i64 0, .int .i64 0, .int .i64 0, .string ⟨#[]⟩]) (by simp [results, Tryz.results21, go_sem, *]) rfl ?_
      exact ⟨by rw [HV.out], by go_grown⟩
    have hat' : ¬ at' < 0 := hat
    obtain ⟨j, hj, hjn, b', off, ma, mc, ea, hmc⟩ := HX.out w1 g (by omega)
    subst ea
    obtain rfl := hj
    have hji : (j : Int) < (n : Int) := by omega
    by_cases hc : 8 ≤ ml
    · have dc : (8 : Int) ≤ (ml : Int) := by omega
      have HV : Hid (R = .agg #[.int .i64 2, .bool false, .bool false, .int .i64 0, .int .i64 0, .int .i64 0, .string ⟨#[]⟩, .bool false, .int .i64 0, .int .i64 0, .int .i64 0, .string ⟨#[]⟩]) := by show _ = _; rw [HE.out]; simp [hat, hc, crVal, zC, zR]
      clear HE HRo HX hat hc
      have hcon := HBad.out 2 w1
      go_wp2_with fail
      refine hcon.mono ?_
      rintro e w9 ⟨rfl, g9⟩
      have g := g.trans (g9.mono g.size)
      have gy := gy.trans (g9.mono gy.size)
      clear hcon g9
      obtain ⟨z0, z1, z2, z3, z4, z5, z6, z7, z8, z9, z10, z11, f0, f1, f2, f3, f4, f5, f6, f7, f8, f9, f10, f11⟩ := HOb.out w9 gy
      go_wp2_with fail
      refine bodyPost_ret (v := .agg #[.int .i64 2, .bool false, .bool false, .int .i64 0, .int .i64 0, .int .i64 0, .string ⟨#[]⟩, .bool false, .int .i64 0, .int .i64 0, .int .i64 0, .string ⟨#[]⟩]) (by simp [results, Tryz.results21, go_sem, *]) rfl ?_
      exact ⟨by rw [HV.out], by go_grown⟩
    · have dc : ¬ (8 : Int) ≤ (ml : Int) := by omega
      have HV : Hid (R = .agg #[.int .i64 0, .bool false, .bool false, .int .i64 0, .int .i64 0, .int .i64 0, .string ⟨#[]⟩, .bool false, .int .i64 0, .int .i64 0, .int .i64 0, .string ⟨#[]⟩]) := by show _ = _; rw [HE.out]; simp [hat, hc, crVal, zC, zR]
      clear HE HRo HX hat hc
      obtain ⟨z0, z1, z2, z3, z4, z5, z6, z7, z8, z9, z10, z11, f0, f1, f2, f3, f4, f5, f6, f7, f8, f9, f10, f11⟩ := HOb.out w1 gy
      go_wp2_with fail
      refine bodyPost_ret (v := .agg #[.int .i64 0, .bool false, .bool false, .int .i64 0, .int .i64 0, .int .i64 0, .string ⟨#[]⟩, .bool false, .int .i64 0, .int .i64 0, .int .i64 0, .string ⟨#[]⟩]) (by simp [results, Tryz.results21, go_sem, *]) rfl ?_
      exact ⟨by rw [HV.out], by go_grown⟩
  · subst hk
    go_enter Tryz.func21, Tryz.ntmps21
    go_upto_region 1 with (fail)
    generalize hY : World.alloc _ _ = Y
    have gY : Below w.heap.size w Y := by rw [← hY]; go_grown
    have O : R12 Y w.heap.size := by rw [← hY]; exact ⟨by simp [go_sem], by simp [go_sem], by simp [go_sem], by simp [go_sem], by simp [go_sem], by simp [go_sem], by simp [go_sem], by simp [go_sem], by simp [go_sem], by simp [go_sem], by simp [go_sem], by simp [go_sem], by simp [go_sem], by simp [go_sem], by simp [go_sem], by simp [go_sem], by simp [go_sem], by simp [go_sem], by simp [go_sem], by simp [go_sem], by simp [go_sem], by simp [go_sem], by simp [go_sem], by simp [go_sem]⟩
    clear hY
    obtain ⟨ob, hob⟩ : ∃ ob, w.heap.size = ob := ⟨_, rfl⟩
    have hwo : w.heap.size ≤ ob := by omega
    rw [hob] at O
    simp only [hob]
    have HOB : Hid (w.heap.size = ob) := hob
    clear hob
    have lO := O.lt
    have HOb : Hid (∀ V, Below Y.heap.size Y V → R12 V ob) := fun V hV => O.below hV lO
    clear O
    have gy : Below Y.heap.size Y Y := Below.refl _ _
    have g := gY
    obtain ⟨q0, q1, q2, q3, q4, q5, q6⟩ := HO.out Y g
    have hcon := HAt.out Y g
    clear HAt
    go_wp2_with fail
    refine hcon.mono ?_
    rintro e w1 ⟨rfl, g1⟩
    have g := g.trans (g1.mono g.size)
    have gy := gy.trans (g1.mono gy.size)
    clear hcon g1 q0 q1 q2 q3 q4 q5 q6
    obtain ⟨q0, q1, q2, q3, q4, q5, q6⟩ := HO.out w1 g
    by_cases hat : at' < 0
    case pos =>
      have HV : Hid (R = .agg #[.int .i64 4, .bool false, .bool false, .int .i64 0, .int .i64 0, .int .i64 0, .string ⟨#[]⟩, .bool false, .int .i64 0, .int .i64 0, .int .i64 0, .string ⟨#[]⟩]) := by show _ = _; rw [HE.out]; simp [hat, crVal, zC, zR]
      clear HE HRo HX
      have hcon := HBad.out 4 w1
      go_wp2_with fail
      refine hcon.mono ?_
      rintro e w9 ⟨rfl, g9⟩
      have g := g.trans (g9.mono g.size)
      have gy := gy.trans (g9.mono gy.size)
      clear hcon g9
      obtain ⟨z0, z1, z2, z3, z4, z5, z6, z7, z8, z9, z10, z11, f0, f1, f2, f3, f4, f5, f6, f7, f8, f9, f10, f11⟩ := HOb.out w9 gy
      go_wp2_with fail
      refine bodyPost_ret (v := .agg #[.int .i64 4, .bool false, .bool false, .int .i64 0, .int .i64 0, .int .i64 0, .string ⟨#[]⟩, .bool false, .int .i64 0, .int .i64 0, .int .i64 0, .string ⟨#[]⟩]) (by simp [results, Tryz.results21, go_sem, *]) rfl ?_
      exact ⟨by rw [HV.out], by go_grown⟩
    have hat' : ¬ at' < 0 := hat
    obtain ⟨j, hj, hjn, b', off, ma, mc, ea, hmc⟩ := HX.out w1 g (by omega)
    subst ea
    obtain rfl := hj
    have hji : (j : Int) < (n : Int) := by omega
    by_cases hc : (ml : Int) ≤ mk
    · have dc : (ml : Int) ≤ mk := by omega
      have HV : Hid (R = .agg #[.int .i64 3, .bool false, .bool false, .int .i64 0, .int .i64 0, .int .i64 0, .string ⟨#[]⟩, .bool false, .int .i64 0, .int .i64 0, .int .i64 0, .string ⟨#[]⟩]) := by show _ = _; rw [HE.out]; simp [hat, hc, crVal, zC, zR]
      clear HE HRo HX hat hc
      go_upto_region 17 with (fail)
      go_quiet (fail)
      have gq0 : Below w1.heap.size w1 (w1.drewN nq) := ⟨rfl, rfl, rfl, Nat.le_refl _, fun _ _ => rfl⟩
      have g := g.trans (gq0.mono g.size)
      have gy := gy.trans (gq0.mono gy.size)
      clear gq0
      generalize w1.drewN nq = w2 at g gy ⊢
      have hcon := HBad.out 3 w2
      go_wp2_with fail
      refine hcon.mono ?_
      rintro e w9 ⟨rfl, g9⟩
      have g := g.trans (g9.mono g.size)
      have gy := gy.trans (g9.mono gy.size)
      clear hcon g9
      obtain ⟨z0, z1, z2, z3, z4, z5, z6, z7, z8, z9, z10, z11, f0, f1, f2, f3, f4, f5, f6, f7, f8, f9, f10, f11⟩ := HOb.out w9 gy
      go_wp2_with fail
      refine bodyPost_ret (v := .agg #[.int .i64 3, .bool false, .bool false, .int .i64 0, .int .i64 0, .int .i64 0, .string ⟨#[]⟩, .bool false, .int .i64 0, .int .i64 0, .int .i64 0, .string ⟨#[]⟩]) (by simp [results, Tryz.results21, go_sem, *]) rfl ?_
      exact ⟨by rw [HV.out], by go_grown⟩
    · have dc : ¬ (ml : Int) ≤ mk := by omega
      have HV : Hid (R = .agg #[.int .i64 0, .bool false, .bool false, .int .i64 0, .int .i64 0, .int .i64 0, .string ⟨#[]⟩, .bool false, .int .i64 0, .int .i64 0, .int .i64 0, .string ⟨#[]⟩]) := by show _ = _; rw [HE.out]; simp [hat, hc, crVal, zC, zR]
      clear HE HRo HX hat hc
      go_upto_region 17 with (fail)
      go_quiet (fail)
      have gq0 : Below w1.heap.size w1 (w1.drewN nq) := ⟨rfl, rfl, rfl, Nat.le_refl _, fun _ _ => rfl⟩
      have g := g.trans (gq0.mono g.size)
      have gy := gy.trans (gq0.mono gy.size)
      clear gq0
      generalize w1.drewN nq = w2 at g gy ⊢
      obtain ⟨z0, z1, z2, z3, z4, z5, z6, z7, z8, z9, z10, z11, f0, f1, f2, f3, f4, f5, f6, f7, f8, f9, f10, f11⟩ := HOb.out w2 gy
      go_wp2_with fail
      refine bodyPost_ret (v := .agg #[.int .i64 0, .bool false, .bool false, .int .i64 0, .int .i64 0, .int .i64 0, .string ⟨#[]⟩, .bool false, .int .i64 0, .int .i64 0, .int .i64 0, .string ⟨#[]⟩]) (by simp [results, Tryz.results21, go_sem, *]) rfl ?_
      exact ⟨by rw [HV.out], by go_grown⟩
  · subst hk
    go_enter Tryz.func21, Tryz.ntmps21
    go_upto_region 1 with (fail)
    generalize hY : World.alloc _ _ = Y
    have gY : Below w.heap.size w Y := by rw [← hY]; go_grown
    have O : R12 Y w.heap.size := by rw [← hY]; exact ⟨by simp [go_sem], by simp [go_sem], by simp [go_sem], by simp [go_sem], by simp [go_sem], by simp [go_sem], by simp [go_sem], by simp [go_sem], by simp [go_sem], by simp [go_sem], by simp [go_sem], by simp [go_sem], by simp [go_sem], by simp [go_sem], by simp [go_sem], by simp [go_sem], by simp [go_sem], by simp [go_sem], by simp [go_sem], by simp [go_sem], by simp [go_sem], by simp [go_sem], by simp [go_sem], by simp [go_sem]⟩
    clear hY
    obtain ⟨ob, hob⟩ : ∃ ob, w.heap.size = ob := ⟨_, rfl⟩
    have hwo : w.heap.size ≤ ob := by omega
    rw [hob] at O
    simp only [hob]
    have HOB : Hid (w.heap.size = ob) := hob
    clear hob
    have lO := O.lt
    have HOb : Hid (∀ V, Below Y.heap.size Y V → R12 V ob) := fun V hV => O.below hV lO
    clear O
    have gy : Below Y.heap.size Y Y := Below.refl _ _
    have g := gY
    obtain ⟨q0, q1, q2, q3, q4, q5, q6⟩ := HO.out Y g
    have hcon := HAt.out Y g
    clear HAt
    go_wp2_with fail
    refine hcon.mono ?_
    rintro e w1 ⟨rfl, g1⟩
    have g := g.trans (g1.mono g.size)
    have gy := gy.trans (g1.mono gy.size)
    clear hcon g1 q0 q1 q2 q3 q4 q5 q6
    obtain ⟨q0, q1, q2, q3, q4, q5, q6⟩ := HO.out w1 g
    by_cases hat : at' < 0
    case pos =>
      have HV : Hid (R = .agg #[.int .i64 4, .bool false, .bool false, .int .i64 0, .int .i64 0, .int .i64 0, .string ⟨#[]⟩, .bool false, .int .i64 0, .int .i64 0, .int .i64 0, .string ⟨#[]⟩]) := by show _ = _; rw [HE.out]; simp [hat, crVal, zC, zR]
      clear HE HRo HX
      have hcon := HBad.out 4 w1
      go_wp2_with fail
      refine hcon.mono ?_
      rintro e w9 ⟨rfl, g9⟩
      have g := g.trans (g9.mono g.size)
      have gy := gy.trans (g9.mono gy.size)
      clear hcon g9
      obtain ⟨z0, z1, z2, z3, z4, z5, z6, z7, z8, z9, z10, z11, f0, f1, f2, f3, f4, f5, f6, f7, f8, f9, f10, f11⟩ := HOb.out w9 gy
      go_wp2_with fail
      refine bodyPost_ret (v := .agg #[.int .i64 4, .bool false, .bool false, .int .i64 0, .int .i64 0, .int .i64 0, .string ⟨#[]⟩, .bool false, .int .i64 0, .int .i64 0, .int .i64 0, .string ⟨#[]⟩]) (by simp [results, Tryz.results21, go_sem, *]) rfl ?_
      exact ⟨by rw [HV.out], by go_grown⟩
    have hat' : ¬ at' < 0 := hat
    have HV : Hid (R = .agg #[.int .i64 0, .bool false, .bool false, .int .i64 0, .int .i64 0, .int .i64 0, .string ⟨#[]⟩, .bool false, .int .i64 0, .int .i64 0, .int .i64 0, .string ⟨#[]⟩]) := by show _ = _; rw [HE.out]; simp [hat, crVal, zC, zR]
    clear HE HRo HX hat
    obtain ⟨z0, z1, z2, z3, z4, z5, z6, z7, z8, z9, z10, z11, f0, f1, f2, f3, f4, f5, f6, f7, f8, f9, f10, f11⟩ := HOb.out w1 gy
    go_wp2_with fail
    refine bodyPost_ret (v := .agg #[.int .i64 0, .bool false, .bool false, .int .i64 0, .int .i64 0, .int .i64 0, .string ⟨#[]⟩, .bool false, .int .i64 0, .int .i64 0, .int .i64 0, .string ⟨#[]⟩]) (by simp [results, Tryz.results21, go_sem, *]) rfl ?_
    exact ⟨by rw [HV.out], by go_grown⟩
  · subst hk
    go_enter Tryz.func21, Tryz.ntmps21
    go_upto_region 1 with (fail)
    generalize hY : World.alloc _ _ = Y
    have gY : Below w.heap.size w Y := by rw [← hY]; go_grown
    have O : R12 Y w.heap.size := by rw [← hY]; exact ⟨by simp [go_sem], by simp [go_sem], by simp [go_sem], by simp [go_sem], by simp [go_sem], by simp [go_sem], by simp [go_sem], by simp [go_sem], by simp [go_sem], by simp [go_sem], by simp [go_sem], by simp [go_sem], by simp [go_sem], by simp [go_sem], by simp [go_sem], by simp [go_sem], by simp [go_sem], by simp [go_sem], by simp [go_sem], by simp [go_sem], by simp [go_sem], by simp [go_sem], by simp [go_sem], by simp [go_sem]⟩
    clear hY
    obtain ⟨ob, hob⟩ : ∃ ob, w.heap.size = ob := ⟨_, rfl⟩
    have hwo : w.heap.size ≤ ob := by omega
    rw [hob] at O
    simp only [hob]
    have HOB : Hid (w.heap.size = ob) := hob
    clear hob
    have lO := O.lt
    have HOb : Hid (∀ V, Below Y.heap.size Y V → R12 V ob) := fun V hV => O.below hV lO
    clear O
    have gy : Below Y.heap.size Y Y := Below.refl _ _
    have g := gY
    obtain ⟨q0, q1, q2, q3, q4, q5, q6⟩ := HO.out Y g
    have hcon := HAt.out Y g
    clear HAt
    go_wp2_with fail
    refine hcon.mono ?_
    rintro e w1 ⟨rfl, g1⟩
    have g := g.trans (g1.mono g.size)
    have gy := gy.trans (g1.mono gy.size)
    clear hcon g1 q0 q1 q2 q3 q4 q5 q6
    obtain ⟨q0, q1, q2, q3, q4, q5, q6⟩ := HO.out w1 g
    by_cases hat : at' < 0
    case pos =>
      have HV : Hid (R = .agg #[.int .i64 4, .bool false, .bool false, .int .i64 0, .int .i64 0, .int .i64 0, .string ⟨#[]⟩, .bool false, .int .i64 0, .int .i64 0, .int .i64 0, .string ⟨#[]⟩]) := by show _ = _; rw [HE.out]; simp [hat, crVal, zC, zR]
      clear HE HRo HX
      have hcon := HBad.out 4 w1
      go_wp2_with fail
      refine hcon.mono ?_
      rintro e w9 ⟨rfl, g9⟩
      have g := g.trans (g9.mono g.size)
      have gy := gy.trans (g9.mono gy.size)
      clear hcon g9
      obtain ⟨z0, z1, z2, z3, z4, z5, z6, z7, z8, z9, z10, z11, f0, f1, f2, f3, f4, f5, f6, f7, f8, f9, f10, f11⟩ := HOb.out w9 gy
      go_wp2_with fail
      refine bodyPost_ret (v := .agg #[.int .i64 4, .bool false, .bool false, .int .i64 0, .int .i64 0, .int .i64 0, .string ⟨#[]⟩, .bool false, .int .i64 0, .int .i64 0, .int .i64 0, .string ⟨#[]⟩]) (by simp [results, Tryz.results21, go_sem, *]) rfl ?_
      exact ⟨by rw [HV.out], by go_grown⟩
    have hat' : ¬ at' < 0 := hat
    have HV : Hid (R = .agg #[.int .i64 0, .bool false, .bool false, .int .i64 0, .int .i64 0, .int .i64 0, .string ⟨#[]⟩, .bool false, .int .i64 0, .int .i64 0, .int .i64 0, .string ⟨#[]⟩]) := by show _ = _; rw [HE.out]; simp [hat, crVal, zC, zR]
    clear HE HRo HX hat
    obtain ⟨z0, z1, z2, z3, z4, z5, z6, z7, z8, z9, z10, z11, f0, f1, f2, f3, f4, f5, f6, f7, f8, f9, f10, f11⟩ := HOb.out w1 gy
    go_wp2_with fail
    refine bodyPost_ret (v := .agg #[.int .i64 0, .bool false, .bool false, .int .i64 0, .int .i64 0, .int .i64 0, .string ⟨#[]⟩, .bool false, .int .i64 0, .int .i64 0, .int .i64 0, .string ⟨#[]⟩]) (by simp [results, Tryz.results21, go_sem, *]) rfl ?_
    exact ⟨by rw [HV.out], by go_grown⟩
  · subst hk
    have HV : Hid (R = .agg #[.int .i64 0, .bool false, .bool false, .int .i64 0, .int .i64 0, .int .i64 0, .string ⟨#[]⟩, .bool false, .int .i64 0, .int .i64 0, .int .i64 0, .string ⟨#[]⟩]) := HE.out
    clear HE HAt HRo HX
    go_enter Tryz.func21, Tryz.ntmps21
    go_upto_region 1 with (fail)
    generalize hY : World.alloc _ _ = Y
    have gY : Below w.heap.size w Y := by rw [← hY]; go_grown
    have O : R12 Y w.heap.size := by rw [← hY]; exact ⟨by simp [go_sem], by simp [go_sem], by simp [go_sem], by simp [go_sem], by simp [go_sem], by simp [go_sem], by simp [go_sem], by simp [go_sem], by simp [go_sem], by simp [go_sem], by simp [go_sem], by simp [go_sem], by simp [go_sem], by simp [go_sem], by simp [go_sem], by simp [go_sem], by simp [go_sem], by simp [go_sem], by simp [go_sem], by simp [go_sem], by simp [go_sem], by simp [go_sem], by simp [go_sem], by simp [go_sem]⟩
    clear hY
    obtain ⟨ob, hob⟩ : ∃ ob, w.heap.size = ob := ⟨_, rfl⟩
    have hwo : w.heap.size ≤ ob := by omega
    rw [hob] at O
    simp only [hob]
    have HOB : Hid (w.heap.size = ob) := hob
    clear hob
    have lO := O.lt
    have HOb : Hid (∀ V, Below Y.heap.size Y V → R12 V ob) := fun V hV => O.below hV lO
    clear O
    have gy : Below Y.heap.size Y Y := Below.refl _ _
    have g := gY
    obtain ⟨q0, q1, q2, q3, q4, q5, q6⟩ := HO.out Y g
    obtain ⟨z0, z1, z2, z3, z4, z5, z6, z7, z8, z9, z10, z11, f0, f1, f2, f3, f4, f5, f6, f7, f8, f9, f10, f11⟩ := HOb.out Y gy
    go_wp2_with fail
    refine bodyPost_ret (v := .agg #[.int .i64 0, .bool false, .bool false, .int .i64 0, .int .i64 0, .int .i64 0, .string ⟨#[]⟩, .bool false, .int .i64 0, .int .i64 0, .int .i64 0, .string ⟨#[]⟩]) (by simp [results, Tryz.results21, go_sem, *]) rfl ?_
    exact ⟨by rw [HV.out], by go_grown⟩

end Go.Proofs.YtpjlpnaamkbicaaGreatDoor
