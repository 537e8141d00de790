/-
  What CheckOp tells of an op with a row; the model's l10CheckRow.
-/
import Derived.Test.YtpjlpnaamkbicaaGreatDoorCKWan
import Derived.Test.YtpjlpnaamkbicaaGreatDoorCKRmo

namespace Go.Proofs.YtpjlpnaamkbicaaGreatDoor
open Go.RowKit Go.Maps
set_option linter.unusedVariables false
set_option maxRecDepth 20000

def fulB (rs : List Rw) (xs : List TxV) (t k : Int) : Bool := decide (12 < (withL (allRK rs xs) ⟨t, k⟩).length) || decide (12 ≤ cntU xs)
def ckR (rs : List Rw) (xs : List TxV) (kd tx t k v : Int) (s : ByteArray) : Value :=
  if xs.any (hldB tx ⟨t, k⟩) = true then crVal 7 false zC else if wcQ rs kd t k = 0 then (if mayM rs (wcC rs kd t k v s) = 0 then (if fulB rs xs t k = true then crVal 9 false zC else if noB (wcC rs kd t k v s) = true then crVal 0 false zC else crVal 0 true (wcC rs kd t k v s)) else crVal (mayM rs (wcC rs kd t k v s)) false zC) else crVal (wcQ rs kd t k) false zC
/-- Twelve cells of an answer, new; two of a key. -/
structure R12 (w : World) (b : Nat) : Prop where
  c0 : w.cell? ⟨b, 0, none⟩ = some (.int .i64 0)
  c1 : w.cell? ⟨b, 1, none⟩ = some (.bool false)
  c2 : w.cell? ⟨b, 2, none⟩ = some (.bool false)
  c3 : w.cell? ⟨b, 3, none⟩ = some (.int .i64 0)
  c4 : w.cell? ⟨b, 4, none⟩ = some (.int .i64 0)
  c5 : w.cell? ⟨b, 5, none⟩ = some (.int .i64 0)
  c6 : w.cell? ⟨b, 6, none⟩ = some (.string ⟨#[]⟩)
  c7 : w.cell? ⟨b, 7, none⟩ = some (.bool false)
  c8 : w.cell? ⟨b, 8, none⟩ = some (.int .i64 0)
  c9 : w.cell? ⟨b, 9, none⟩ = some (.int .i64 0)
  c10 : w.cell? ⟨b, 10, none⟩ = some (.int .i64 0)
  c11 : w.cell? ⟨b, 11, none⟩ = some (.string ⟨#[]⟩)
  f0 : w.frozen? ⟨b, 0, none⟩ = false
  f1 : w.frozen? ⟨b, 1, none⟩ = false
  f2 : w.frozen? ⟨b, 2, none⟩ = false
  f3 : w.frozen? ⟨b, 3, none⟩ = false
  f4 : w.frozen? ⟨b, 4, none⟩ = false
  f5 : w.frozen? ⟨b, 5, none⟩ = false
  f6 : w.frozen? ⟨b, 6, none⟩ = false
  f7 : w.frozen? ⟨b, 7, none⟩ = false
  f8 : w.frozen? ⟨b, 8, none⟩ = false
  f9 : w.frozen? ⟨b, 9, none⟩ = false
  f10 : w.frozen? ⟨b, 10, none⟩ = false
  f11 : w.frozen? ⟨b, 11, none⟩ = false
theorem R12.lt {w : World} {b : Nat} (h : R12 w b) : b < w.heap.size := World.block_lt_of_cell? w _ h.c0
theorem R12.below {w w' : World} {b : Nat} (h : R12 w b) {B : Nat} (hb : Below B w w') (hl : b < B) : R12 w' b :=
  ⟨(hb.cell (p := ⟨b, 0, none⟩) hl).trans h.c0, (hb.cell (p := ⟨b, 1, none⟩) hl).trans h.c1, (hb.cell (p := ⟨b, 2, none⟩) hl).trans h.c2, (hb.cell (p := ⟨b, 3, none⟩) hl).trans h.c3, (hb.cell (p := ⟨b, 4, none⟩) hl).trans h.c4, (hb.cell (p := ⟨b, 5, none⟩) hl).trans h.c5, (hb.cell (p := ⟨b, 6, none⟩) hl).trans h.c6, (hb.cell (p := ⟨b, 7, none⟩) hl).trans h.c7, (hb.cell (p := ⟨b, 8, none⟩) hl).trans h.c8, (hb.cell (p := ⟨b, 9, none⟩) hl).trans h.c9, (hb.cell (p := ⟨b, 10, none⟩) hl).trans h.c10, (hb.cell (p := ⟨b, 11, none⟩) hl).trans h.c11, (hb.frozen (p := ⟨b, 0, none⟩) hl).trans h.f0, (hb.frozen (p := ⟨b, 1, none⟩) hl).trans h.f1, (hb.frozen (p := ⟨b, 2, none⟩) hl).trans h.f2, (hb.frozen (p := ⟨b, 3, none⟩) hl).trans h.f3, (hb.frozen (p := ⟨b, 4, none⟩) hl).trans h.f4, (hb.frozen (p := ⟨b, 5, none⟩) hl).trans h.f5, (hb.frozen (p := ⟨b, 6, none⟩) hl).trans h.f6, (hb.frozen (p := ⟨b, 7, none⟩) hl).trans h.f7, (hb.frozen (p := ⟨b, 8, none⟩) hl).trans h.f8, (hb.frozen (p := ⟨b, 9, none⟩) hl).trans h.f9, (hb.frozen (p := ⟨b, 10, none⟩) hl).trans h.f10, (hb.frozen (p := ⟨b, 11, none⟩) hl).trans h.f11⟩
structure N2f (w : World) (b : Nat) : Prop where
  c0 : w.cell? ⟨b, 0, none⟩ = some (.int .i64 0)
  c1 : w.cell? ⟨b, 1, none⟩ = some (.int .i64 0)
  f0 : w.frozen? ⟨b, 0, none⟩ = false
  f1 : w.frozen? ⟨b, 1, none⟩ = false

set_option maxHeartbeats 16000000 in
theorem l10CheckRow_any (ra : Option Addr) (rs : List Rw) (rn rc : Nat) (a : Option Addr) (xs : List TxV) (n c b : Nat) (kd tx t k v : Int) (s : ByteArray) (mk : Int) (w : World) (hrn : rs.length = rn) (hrm : rn ≤ 60) (hu : Uniq rs) (hrs : ∀ r ∈ rs, r.s.size ≤ 1048576) (hr : Rs rwE 4 w ra rs) (hn : xs.length = n) (hm : n ≤ 4) (hs : ∀ x ∈ xs, TxOk 1048576 x) (hx : TxRd w a xs) (ho : OpAt w b kd tx t k v s mk) (hkd : kd = 2 ∨ kd = 3 ∨ kd = 4) (hk0 : k ≠ 0) (hss : s.size ≤ 1048576) :
    Calls Tryz.prog 48 #[.slice ra rn rc, .slice a n c, .pointer (some ⟨b, 0, none⟩)] w fun e w' => e = .returned (ckR rs xs kd tx t k v s) ∧ Below w.heap.size w w' := by
  have lo := ho.lt
  have HO : Hid (∀ V, Below w.heap.size w V → OpAt V b kd tx t k v s mk) := fun V hV => ho.below hV lo
  have HHl : Hid (∀ V, Below w.heap.size w V → Calls Tryz.prog 79 #[.slice a n c, .int .i64 tx, .agg #[.int .i64 t, .int .i64 k]] V fun e w' => e = .returned (.bool (xs.any (hldB tx ⟨t, k⟩))) ∧ Below V.heap.size V w') := fun V hV => l10Held_any a xs n c tx t k V hn (by omega) hs (hx.below hV (Nat.le_refl _))
  have HWa : Hid (∀ V, Below w.heap.size w V → Calls Tryz.prog 80 #[.slice ra rn rc, .pointer (some ⟨b, 0, none⟩)] V fun e w' => e = .returned (wcV rs kd t k v s) ∧ Below V.heap.size V w') := fun V hV => l10Wanted_any ra rs rn rc b kd tx t k v s mk V hrn (by omega) hu (hr.below hV (Nat.le_refl _)) (ho.below hV lo) hkd
  have HMy : Hid (∀ V cb, Below w.heap.size w V → ChC V cb 0 (wcC rs kd t k v s) → Calls Tryz.prog 81 #[.slice ra rn rc, .pointer (some ⟨cb, 0, none⟩)] V fun e w' => e = .returned (.int .i64 (mayM rs (wcC rs kd t k v s))) ∧ Below V.heap.size V w') := fun V cb hV hC => l8May_any ra rs rn rc cb (wcC rs kd t k v s) V hrn hrm hu (fun r h => Nat.le_trans (hrs r h) (by decide)) (by
    unfold wcC
    split
    · show (if kd = 4 then zR else _).s.size ≤ _
      split
      · show ByteArray.size ⟨#[]⟩ ≤ _; decide
      · exact Nat.le_trans hss (by decide)
    · show ByteArray.size ⟨#[]⟩ ≤ _; decide) (hr.below hV (Nat.le_refl _)) hC
  have HRo : Hid (∀ V, Below w.heap.size w V → Calls Tryz.prog 82 #[.slice ra rn rc, .slice a n c, .agg #[.int .i64 t, .int .i64 k]] V fun e w' => e = .returned (.int .i64 ((withL (allRK rs xs) ⟨t, k⟩).length : Nat)) ∧ Below V.heap.size V w') := fun V hV => by
    have h := l10Room_any ra rs rn rc a xs n c t k V hrn (by omega) (hr.below hV (Nat.le_refl _)) hn hm hs (hx.below hV (Nat.le_refl _))
    rw [rm_fold, if_neg hk0] at h
    exact h
  have HCo : Hid (∀ V, Below w.heap.size w V → Calls Tryz.prog 44 #[.slice a n c] V fun e w' => e = .returned (.int .i64 (cntU xs)) ∧ w' = V) := fun V hV => l10Count_any a xs n c V hn hm hs (hx.below hV (Nat.le_refl _))
  have HBad : Hid (∀ (q : Int) V, Calls Tryz.prog 18 #[.int .i64 q] V fun e w' => e = .returned (.agg #[.int .i64 q, .bool false, .bool false, .int .i64 0, .int .i64 0, .int .i64 0, .string ⟨#[]⟩, .bool false, .int .i64 0, .int .i64 0, .int .i64 0, .string ⟨#[]⟩]) ∧ Below V.heap.size V w') := fun q V => l10Bad_any q V
  have HE : Hid (ckR rs xs kd tx t k v s = if xs.any (hldB tx ⟨t, k⟩) = true then crVal 7 false zC else if wcQ rs kd t k = 0 then (if mayM rs (wcC rs kd t k v s) = 0 then (if (decide (12 < (withL (allRK rs xs) ⟨t, k⟩).length) || decide (12 ≤ cntU xs)) = true then crVal 9 false zC else if noB (wcC rs kd t k v s) = true then crVal 0 false zC else crVal 0 true (wcC rs kd t k v s)) else crVal (mayM rs (wcC rs kd t k v s)) false zC) else crVal (wcQ rs kd t k) false zC) := rfl
  obtain ⟨R, hR⟩ : ∃ R, ckR rs xs kd tx t k v s = R := ⟨_, rfl⟩
  rw [hR] at HE ⊢
  have HWv : Hid (wcV rs kd t k v s = .tuple #[chVal (wcC rs kd t k v s), .int .i64 (wcQ rs kd t k)]) := rfl
  rw [HWv.out] at HWa
  clear hrn hu hrs hr hn hs hx ho hkd hR HWv
  generalize wcC rs kd t k v s = cc at HWa HMy HE
  generalize wcQ rs kd t k = wq at HWa HE
  generalize mayM rs cc = mq at HMy HE
  generalize (withL (allRK rs xs) ⟨t, k⟩).length = al at HRo HE
  generalize cntU xs = cu at HCo HE
  generalize xs.any (hldB tx ⟨t, k⟩) = hb at HHl HE
  obtain ⟨cw, ⟨bt, bk, bv, bs⟩, ci, ⟨at', ak, av, sa⟩⟩ := cc
  have HWa2 : Hid (∀ V, Below w.heap.size w V → Calls Tryz.prog 80 #[.slice ra rn rc, .pointer (some ⟨b, 0, none⟩)] V fun e w' => e = .returned (.tuple #[.agg #[.bool cw, .int .i64 bt, .int .i64 bk, .int .i64 bv, .string bs, .bool ci, .int .i64 at', .int .i64 ak, .int .i64 av, .string sa], .int .i64 wq]) ∧ Below V.heap.size V w') := HWa
  clear HWa
  go_enter Tryz.func48, Tryz.ntmps48
  go_upto_region 1 with (fail)
  generalize hY : World.alloc _ _ = Y
  have gY : Below w.heap.size w Y := by rw [← hY]; go_grown
  have O : R12 Y w.heap.size := by rw [← hY]; exact ⟨by simp [go_sem], by simp [go_sem], by simp [go_sem], by simp [go_sem], by simp [go_sem], by simp [go_sem], by simp [go_sem], by simp [go_sem], by simp [go_sem], by simp [go_sem], by simp [go_sem], by simp [go_sem], by simp [go_sem], by simp [go_sem], by simp [go_sem], by simp [go_sem], by simp [go_sem], by simp [go_sem], by simp [go_sem], by simp [go_sem], by simp [go_sem], by simp [go_sem], by simp [go_sem], by simp [go_sem]⟩
  clear hY
  obtain ⟨ob, hob⟩ : ∃ ob, w.heap.size = ob := ⟨_, rfl⟩
  have hwo : w.heap.size ≤ ob := by omega
  rw [hob] at O
  simp only [hob]
  have HOB : Hid (w.heap.size = ob) := hob
  clear hob
  have lO := O.lt
  have HOb : Hid (∀ V, Below Y.heap.size Y V → R12 V ob) := fun V hV => O.below hV lO
  clear O
  go_cut [7] from 11 (fun s7 wc => ∃ kb : Nat, s7 = .pointer (some ⟨kb, 0, none⟩) ∧ Below Y.heap.size Y wc ∧ wc.cell? ⟨kb, 0, none⟩ = some (.int .i64 t) ∧ wc.cell? ⟨kb, 1, none⟩ = some (.int .i64 k))
  case first =>
    clear HHl HWa2 HMy HRo HCo HBad HE HOb
    refine wp_region_held_drew (S := fun V => OpAt V b kd tx t k v s mk ∧ Below Y.heap.size Y V) (by kernel_rfl) ⟨HO.out _ (gY.trans ((Below.refl _ Y).drew.mono gY.size)), (Below.refl _ Y).drew⟩ (fun hHeld => ?_)
    generalize World.drew _ = D0 at hHeld ⊢
    refine wpAnyH_take (i := 0) (v := ?v1) rfl (by kernel_rfl) (by kernel_rfl) (by kernel_rfl) (fun _ _ _ h => h) (Or.inl ⟨by kernel_rfl, ?h1⟩) hHeld ?_
    case h1 => intro u hSw; clear hSw; go_simp; try with_reducible rfl
    try simp only [List.getElem_toArray]
    try simp only [List.getElem_cons_succ]
    try simp only [List.getElem_cons_zero]
    try simp only [Act.put]
    try simp only [List.setIfInBounds_toArray]
    try simp only [List.set]
    refine wpAnyH_take (i := 1) (v := ?v2) rfl (by kernel_rfl) (by kernel_rfl) (by kernel_rfl) (fun _ _ _ h => h) (Or.inl ⟨by kernel_rfl, ?h2⟩) hHeld ?_
    case h2 => intro u hSw; clear hSw; go_simp; try with_reducible rfl
    try simp only [List.getElem_toArray]
    try simp only [List.getElem_cons_succ]
    try simp only [List.getElem_cons_zero]
    try simp only [Act.put]
    try simp only [List.setIfInBounds_toArray]
    try simp only [List.set]
    refine wpAnyH_take (i := 2) (v := ?v3) rfl (by kernel_rfl) (by kernel_rfl) (by kernel_rfl) (fun _ _ _ h => h) (Or.inl ⟨by kernel_rfl, ?h3⟩) hHeld ?_
    case h3 => intro u hSw; clear hSw; go_simp; try with_reducible rfl
    try simp only [List.getElem_toArray]
    try simp only [List.getElem_cons_succ]
    try simp only [List.getElem_cons_zero]
    try simp only [Act.put]
    try simp only [List.setIfInBounds_toArray]
    try simp only [List.set]
    refine wpAnyH_take (i := 3) (v := ?v4) rfl (by kernel_rfl) (by kernel_rfl) (by kernel_rfl) (fun _ _ _ h => h) (Or.inl ⟨by kernel_rfl, ?h4⟩) hHeld ?_
    case h4 => intro u hSw; clear hSw; go_simp; try with_reducible rfl
    try simp only [List.getElem_toArray]
    try simp only [List.getElem_cons_succ]
    try simp only [List.getElem_cons_zero]
    try simp only [Act.put]
    try simp only [List.setIfInBounds_toArray]
    try simp only [List.set]
    refine wpAnyH_take (i := 4) (v := ?v5) rfl (by kernel_rfl) (by kernel_rfl) (by kernel_rfl) (fun _ _ _ h => h) (Or.inl ⟨by kernel_rfl, ?h5⟩) hHeld ?_
    case h5 => intro u hSw; (obtain ⟨q0, q1, q2, q3, q4, q5, q6⟩ := hSw.1); clear hSw; go_simp; try with_reducible rfl
    try simp only [List.getElem_toArray]
    try simp only [List.getElem_cons_succ]
    try simp only [List.getElem_cons_zero]
    try simp only [Act.put]
    try simp only [List.setIfInBounds_toArray]
    try simp only [List.set]
    refine wpAnyH_take (i := 5) (v := ?v6) rfl (by kernel_rfl) (by kernel_rfl) (by kernel_rfl) (fun _ _ _ h => h) (Or.inl ⟨by kernel_rfl, ?h6⟩) hHeld ?_
    case h6 => intro u hSw; clear hSw; go_simp; try with_reducible rfl
    try simp only [List.getElem_toArray]
    try simp only [List.getElem_cons_succ]
    try simp only [List.getElem_cons_zero]
    try simp only [Act.put]
    try simp only [List.setIfInBounds_toArray]
    try simp only [List.set]
    refine wpAnyH_take (i := 6) (v := ?v7) rfl (by kernel_rfl) (by kernel_rfl) (by kernel_rfl) (fun _ _ _ h => h) (Or.inl ⟨by kernel_rfl, ?h7⟩) hHeld ?_
    case h7 => intro u hSw; clear hSw; go_simp; try with_reducible rfl
    try simp only [List.getElem_toArray]
    try simp only [List.getElem_cons_succ]
    try simp only [List.getElem_cons_zero]
    try simp only [Act.put]
    try simp only [List.setIfInBounds_toArray]
    try simp only [List.set]
    refine wpAnyH_take (i := 7) (v := ?v8) rfl (by kernel_rfl) (by kernel_rfl) (by kernel_rfl) (fun _ _ _ h => h) (Or.inl ⟨by kernel_rfl, ?h8⟩) hHeld ?_
    case h8 => intro u hSw; clear hSw; go_simp; try with_reducible rfl
    try simp only [List.getElem_toArray]
    try simp only [List.getElem_cons_succ]
    try simp only [List.getElem_cons_zero]
    try simp only [Act.put]
    try simp only [List.setIfInBounds_toArray]
    try simp only [List.set]
    refine wpAnyH_take (i := 8) (v := ?v9) rfl (by kernel_rfl) (by kernel_rfl) (by kernel_rfl) (fun _ _ _ h => h) (Or.inl ⟨by kernel_rfl, ?h9⟩) hHeld ?_
    case h9 => intro u hSw; clear hSw; go_simp; try with_reducible rfl
    try simp only [List.getElem_toArray]
    try simp only [List.getElem_cons_succ]
    try simp only [List.getElem_cons_zero]
    try simp only [Act.put]
    try simp only [List.setIfInBounds_toArray]
    try simp only [List.set]
    refine wpAnyH_take (i := 9) (v := ?v10) rfl (by kernel_rfl) (by kernel_rfl) (by kernel_rfl) (fun _ _ _ h => h) (Or.inl ⟨by kernel_rfl, ?h10⟩) hHeld ?_
    case h10 => intro u hSw; (obtain ⟨q0, q1, q2, q3, q4, q5, q6⟩ := hSw.1); clear hSw; go_simp; try with_reducible rfl
    try simp only [List.getElem_toArray]
    try simp only [List.getElem_cons_succ]
    try simp only [List.getElem_cons_zero]
    try simp only [Act.put]
    try simp only [List.setIfInBounds_toArray]
    try simp only [List.set]
    refine wpAnyH_take (i := 10) (v := ?v11) rfl (by kernel_rfl) (by kernel_rfl) (by kernel_rfl) (fun _ _ _ h => h) (Or.inl ⟨by kernel_rfl, ?h11⟩) hHeld ?_
    case h11 => intro u hSw; clear hSw; go_simp; try with_reducible rfl
    try simp only [List.getElem_toArray]
    try simp only [List.getElem_cons_succ]
    try simp only [List.getElem_cons_zero]
    try simp only [Act.put]
    try simp only [List.setIfInBounds_toArray]
    try simp only [List.set]
    have gg : Below D0.heap.size D0 (D0.alloc (.cells #[.int .i64 0, .int .i64 0] 97)) := by go_grown
    have hN : N2f (D0.alloc (.cells #[.int .i64 0, .int .i64 0] 97)) D0.heap.size := ⟨by simp [go_sem], by simp [go_sem], by simp [go_sem], by simp [go_sem]⟩
    have hyD : Y.heap.size ≤ D0.heap.size := hHeld.2.size
    refine wpAnyH_ready (rs := [11]) (by kernel_rfl) (by simp) ?_
    refine AllReadyH.cons rfl (fun K hK => ?_) AllReadyH.nil
    go_simp
    refine hK.out _ _ ⟨hHeld.1.below gg hHeld.1.lt, hHeld.2.trans (gg.mono hHeld.2.size)⟩ (fun hHeld => ?_)
    clear hK K gg
    generalize D0.alloc (.cells #[.int .i64 0, .int .i64 0] 97) = D1 at hHeld hN ⊢
    generalize D0.heap.size = kb at hN hyD ⊢
    try simp only [Act.put]
    try simp only [List.setIfInBounds_toArray]
    try simp only [List.set]
    have T : Turned kb (kb + 1) D1 ((D1.setCell ⟨kb, 0, none⟩ (.int .i64 t)).setCell ⟨kb, 1, none⟩ (.int .i64 k)) := ((Turned.refl _ _ D1).setCell (p := ⟨kb, 0, none⟩) (Nat.le_refl _) (Nat.lt_succ_self _) _).setCell (p := ⟨kb, 1, none⟩) (Nat.le_refl _) (Nat.lt_succ_self _) _
    have hbl := T.toBelow (B := Y.heap.size) hHeld.2.size hyD
    obtain ⟨n0, n1, m0, m1⟩ := hN
    refine wpAnyH_ready (rs := [12]) (by kernel_rfl) (by simp) ?_
    refine AllReadyH.cons rfl (fun K hK => ?_) AllReadyH.nil
    go_simp
    refine hK.out _ _ ⟨HO.out _ (gY.trans ((hHeld.2.trans hbl).mono gY.size)), hHeld.2.trans hbl⟩ (fun hHeld => ?_)
    clear hK K
    try simp only [Act.put]
    try simp only [List.setIfInBounds_toArray]
    try simp only [List.set]
    refine wpAnyH_done (by kernel_rfl) ?_ _
    have b3 : ((D1.setCell ⟨kb, 0, none⟩ (.int .i64 t)).setCell ⟨kb, 1, none⟩ (.int .i64 k)).cell? ⟨kb, 0, none⟩ = some (.int .i64 t) ∧ ((D1.setCell ⟨kb, 0, none⟩ (.int .i64 t)).setCell ⟨kb, 1, none⟩ (.int .i64 k)).cell? ⟨kb, 1, none⟩ = some (.int .i64 k) := ⟨by simp [go_sem, n0], by simp [go_sem, n1]⟩
    go_wp2_with fail
    go_meet
    case rel => exact ⟨kb, rfl, hHeld.2, b3⟩
  case rest =>
    obtain ⟨kb, rfl, gy, k0, k1⟩ := hcut
    obtain ⟨w1, hw1⟩ : ∃ w1, w1 = wc := ⟨_, rfl⟩
    subst hw1
    have g := gY.trans (gy.mono gY.size)
    have lk := World.block_lt_of_cell? _ _ k0
    have HKb : Hid (∀ V, Below w1.heap.size w1 V → V.cell? ⟨kb, 0, none⟩ = some (.int .i64 t) ∧ V.cell? ⟨kb, 1, none⟩ = some (.int .i64 k)) := fun V hV => ⟨(hV.cell (p := ⟨kb, 0, none⟩) lk).trans k0, (hV.cell (p := ⟨kb, 1, none⟩) lk).trans k1⟩
    clear k0 k1 lk
    go_upto_region 2 with (fail)
    go_cut [28] from 22 (fun s wx => s = .bool hb ∧ Below w1.heap.size w1 wx)
    case first =>
      clear HWa2 HMy HRo HCo HBad HE HOb
      refine wp_region_held_drew (S := fun V => (OpAt V b kd tx t k v s mk ∧ V.cell? ⟨kb, 0, none⟩ = some (.int .i64 t) ∧ V.cell? ⟨kb, 1, none⟩ = some (.int .i64 k)) ∧ Below w1.heap.size w1 V) (by kernel_rfl) ⟨⟨HO.out _ (g.trans ((Below.refl _ w1).drew.mono g.size)), HKb.out _ (Below.refl _ w1).drew⟩, (Below.refl _ w1).drew⟩ (fun hHeld => ?_)
      generalize World.drew _ = D0 at hHeld ⊢
      refine wpAnyH_take (i := 0) (v := ?v12) rfl (by kernel_rfl) (by kernel_rfl) (by kernel_rfl) (fun _ _ _ h => h) (Or.inl ⟨by kernel_rfl, ?h12⟩) hHeld ?_
      case h12 => intro u hSw; clear hSw; go_simp; try with_reducible rfl
      try simp only [List.getElem_toArray]
      try simp only [List.getElem_cons_succ]
      try simp only [List.getElem_cons_zero]
      try simp only [Act.put]
      try simp only [List.setIfInBounds_toArray]
      try simp only [List.set]
      refine wpAnyH_take (i := 1) (v := ?v13) rfl (by kernel_rfl) (by kernel_rfl) (by kernel_rfl) (fun _ _ _ h => h) (Or.inl ⟨by kernel_rfl, ?h13⟩) hHeld ?_
      case h13 => intro u hSw; clear hSw; go_simp; try with_reducible rfl
      try simp only [List.getElem_toArray]
      try simp only [List.getElem_cons_succ]
      try simp only [List.getElem_cons_zero]
      try simp only [Act.put]
      try simp only [List.setIfInBounds_toArray]
      try simp only [List.set]
      refine wpAnyH_take (i := 2) (v := ?v14) rfl (by kernel_rfl) (by kernel_rfl) (by kernel_rfl) (fun _ _ _ h => h) (Or.inl ⟨by kernel_rfl, ?h14⟩) hHeld ?_
      case h14 => intro u hSw; clear hSw; go_simp; try with_reducible rfl
      try simp only [List.getElem_toArray]
      try simp only [List.getElem_cons_succ]
      try simp only [List.getElem_cons_zero]
      try simp only [Act.put]
      try simp only [List.setIfInBounds_toArray]
      try simp only [List.set]
      refine wpAnyH_take (i := 3) (v := ?v15) rfl (by kernel_rfl) (by kernel_rfl) (by kernel_rfl) (fun _ _ _ h => h) (Or.inl ⟨by kernel_rfl, ?h15⟩) hHeld ?_
      case h15 => intro u hSw; clear hSw; go_simp; try with_reducible rfl
      try simp only [List.getElem_toArray]
      try simp only [List.getElem_cons_succ]
      try simp only [List.getElem_cons_zero]
      try simp only [Act.put]
      try simp only [List.setIfInBounds_toArray]
      try simp only [List.set]
      refine wpAnyH_take (i := 4) (v := ?v16) rfl (by kernel_rfl) (by kernel_rfl) (by kernel_rfl) (fun _ _ _ h => h) (Or.inl ⟨by kernel_rfl, ?h16⟩) hHeld ?_
      case h16 => intro u hSw; (obtain ⟨⟨⟨q0, q1, q2, q3, q4, q5, q6⟩, k0, k1⟩, -⟩ := hSw); go_simp; try with_reducible rfl
      try simp only [List.getElem_toArray]
      try simp only [List.getElem_cons_succ]
      try simp only [List.getElem_cons_zero]
      try simp only [Act.put]
      try simp only [List.setIfInBounds_toArray]
      try simp only [List.set]
      refine wpAnyH_take (i := 5) (v := ?v17) rfl (by kernel_rfl) (by kernel_rfl) (by kernel_rfl) (fun _ _ _ h => h) (Or.inl ⟨by kernel_rfl, ?h17⟩) hHeld ?_
      case h17 => intro u hSw; (obtain ⟨⟨⟨q0, q1, q2, q3, q4, q5, q6⟩, k0, k1⟩, -⟩ := hSw); go_simp; try with_reducible rfl
      try simp only [List.getElem_toArray]
      try simp only [List.getElem_cons_succ]
      try simp only [List.getElem_cons_zero]
      try simp only [Act.put]
      try simp only [List.setIfInBounds_toArray]
      try simp only [List.set]
      refine wpAnyH_ready (rs := [6]) (by kernel_rfl) (by simp) ?_
      refine AllReadyH.cons rfl (fun K hK => ?_) AllReadyH.nil
      go_simp
      go_wp2_with (go_at_call 79; refine (HHl.out _ (g.trans (hHeld.2.mono g.size))).mono ?_; rintro e W1 ⟨rfl, gg⟩)
      refine hK.out _ _ (⟨⟨hHeld.1.1.below gg hHeld.1.1.lt, HKb.out _ (hHeld.2.trans (gg.mono hHeld.2.size))⟩, hHeld.2.trans (gg.mono hHeld.2.size)⟩) (fun hHeld => ?_)
      clear hK K
      try simp only [Act.put]
      try simp only [List.setIfInBounds_toArray]
      try simp only [List.set]
      refine wpAnyH_done (by kernel_rfl) ?_ _
      go_wp2_with fail
      go_meet
      case rel => exact ⟨rfl, hHeld.2⟩
    case rest =>
      obtain ⟨rfl, g2⟩ := hcut
      obtain ⟨w2, hw2⟩ : ∃ w2, w2 = wc := ⟨_, rfl⟩
      subst hw2
      have g := g.trans (g2.mono g.size)
      have gy := gy.trans (g2.mono gy.size)
      cases hb
      case true =>
        have HV : Hid (R = .agg #[.int .i64 7, .bool false, .bool false, .int .i64 0, .int .i64 0, .int .i64 0, .string ⟨#[]⟩, .bool false, .int .i64 0, .int .i64 0, .int .i64 0, .string ⟨#[]⟩]) := HE.out
        have hcon := HBad.out 7 w2
        clear HE HHl HWa2 HMy HRo HCo
        go_wp2_with fail
        refine hcon.mono ?_
        rintro e w9 ⟨rfl, g9⟩
        have g := g.trans (g9.mono g.size)
        have gy := gy.trans (g9.mono gy.size)
        clear hcon g9
        obtain ⟨z0, z1, z2, z3, z4, z5, z6, z7, z8, z9, z10, z11, f0, f1, f2, f3, f4, f5, f6, f7, f8, f9, f10, f11⟩ := HOb.out w9 gy
        go_wp2_with fail
        refine bodyPost_ret (v := .agg #[.int .i64 7, .bool false, .bool false, .int .i64 0, .int .i64 0, .int .i64 0, .string ⟨#[]⟩, .bool false, .int .i64 0, .int .i64 0, .int .i64 0, .string ⟨#[]⟩]) (by simp [results, Tryz.results48, go_sem, *]) rfl ?_
        exact ⟨by rw [HV.out], by go_grown⟩
      have HE2 : Hid (R = if wq = 0 then (if mq = 0 then (if (decide (12 < al) || decide (12 ≤ cu)) = true then crVal 9 false zC else if noB (⟨cw, ⟨bt, bk, bv, bs⟩, ci, ⟨at', ak, av, sa⟩⟩ : Chg) = true then crVal 0 false zC else crVal 0 true (⟨cw, ⟨bt, bk, bv, bs⟩, ci, ⟨at', ak, av, sa⟩⟩ : Chg)) else crVal mq false zC) else crVal wq false zC) := HE.out
      clear HE HHl
      have hcon := HWa2.out w2 g
      have gk := g2
      clear HWa2
      go_wp2_with fail
      refine hcon.mono ?_
      rintro e w3 ⟨rfl, g3⟩
      have g := g.trans (g3.mono g.size)
      have gy := gy.trans (g3.mono gy.size)
      have gk := gk.trans (g3.mono gk.size)
      clear hcon g3 g2
      go_upto_region 5 with (fail)
      generalize hZ : World.alloc _ _ = Z
      have gZ : Below w3.heap.size w3 Z := by rw [← hZ]; go_grown
      have hC : ChC Z w3.heap.size 0 (⟨cw, ⟨bt, bk, bv, bs⟩, ci, ⟨at', ak, av, sa⟩⟩ : Chg) := by rw [← hZ]; exact ⟨by simp [go_sem], by simp [go_sem], by simp [go_sem], by simp [go_sem], by simp [go_sem], by simp [go_sem], by simp [go_sem], by simp [go_sem], by simp [go_sem], by simp [go_sem]⟩
      have g := g.trans (gZ.mono g.size)
      have gy := gy.trans (gZ.mono gy.size)
      have gk := gk.trans (gZ.mono gk.size)
      clear hZ gZ
      generalize w3.heap.size = cb at hC ⊢
      have lC := hC.lt
      have HC : Hid (∀ V, Below Z.heap.size Z V → ChC V cb 0 (⟨cw, ⟨bt, bk, bv, bs⟩, ci, ⟨at', ak, av, sa⟩⟩ : Chg)) := fun V hV => hC.below hV lC
      by_cases h1 : wq = 0
      case neg =>
        have d1 : (wq != 0) = true := by simpa using h1
        have HV : Hid (R = .agg #[.int .i64 wq, .bool false, .bool false, .int .i64 0, .int .i64 0, .int .i64 0, .string ⟨#[]⟩, .bool false, .int .i64 0, .int .i64 0, .int .i64 0, .string ⟨#[]⟩]) := by show _ = _; rw [HE2.out, if_neg h1]; rfl
        have hcon := HBad.out wq Z
        clear HE2 HMy HRo HCo HC hC h1
        go_wp2_with fail
        refine hcon.mono ?_
        rintro e w9 ⟨rfl, g9⟩
        have g := g.trans (g9.mono g.size)
        have gy := gy.trans (g9.mono gy.size)
        clear hcon g9
        obtain ⟨z0, z1, z2, z3, z4, z5, z6, z7, z8, z9, z10, z11, f0, f1, f2, f3, f4, f5, f6, f7, f8, f9, f10, f11⟩ := HOb.out w9 gy
        go_wp2_with fail
        refine bodyPost_ret (v := .agg #[.int .i64 wq, .bool false, .bool false, .int .i64 0, .int .i64 0, .int .i64 0, .string ⟨#[]⟩, .bool false, .int .i64 0, .int .i64 0, .int .i64 0, .string ⟨#[]⟩]) (by simp [results, Tryz.results48, go_sem, *]) rfl ?_
        exact ⟨by rw [HV.out], by go_grown⟩
      have HE3 : Hid (R = if mq = 0 then (if (decide (12 < al) || decide (12 ≤ cu)) = true then crVal 9 false zC else if noB (⟨cw, ⟨bt, bk, bv, bs⟩, ci, ⟨at', ak, av, sa⟩⟩ : Chg) = true then crVal 0 false zC else crVal 0 true (⟨cw, ⟨bt, bk, bv, bs⟩, ci, ⟨at', ak, av, sa⟩⟩ : Chg)) else crVal mq false zC) := by show _ = _; rw [HE2.out, if_pos h1]
      clear HE2
      subst h1
      have hcon := HMy.out Z cb g hC
      clear hC HMy
      go_wp2_with fail
      refine hcon.mono ?_
      rintro e w4 ⟨rfl, g4⟩
      have g := g.trans (g4.mono g.size)
      have gy := gy.trans (g4.mono gy.size)
      have gk := gk.trans (g4.mono gk.size)
      have gc := g4
      clear hcon g4
      by_cases h2 : mq = 0
      case neg =>
        have d1 : (mq != 0) = true := by simpa using h2
        have HV : Hid (R = .agg #[.int .i64 mq, .bool false, .bool false, .int .i64 0, .int .i64 0, .int .i64 0, .string ⟨#[]⟩, .bool false, .int .i64 0, .int .i64 0, .int .i64 0, .string ⟨#[]⟩]) := by show _ = _; rw [HE3.out, if_neg h2]; rfl
        have hcon := HBad.out mq w4
        clear HE3 HRo HCo HC h2
        go_wp2_with fail
        refine hcon.mono ?_
        rintro e w9 ⟨rfl, g9⟩
        have g := g.trans (g9.mono g.size)
        have gy := gy.trans (g9.mono gy.size)
        clear hcon g9
        obtain ⟨z0, z1, z2, z3, z4, z5, z6, z7, z8, z9, z10, z11, f0, f1, f2, f3, f4, f5, f6, f7, f8, f9, f10, f11⟩ := HOb.out w9 gy
        go_wp2_with fail
        refine bodyPost_ret (v := .agg #[.int .i64 mq, .bool false, .bool false, .int .i64 0, .int .i64 0, .int .i64 0, .string ⟨#[]⟩, .bool false, .int .i64 0, .int .i64 0, .int .i64 0, .string ⟨#[]⟩]) (by simp [results, Tryz.results48, go_sem, *]) rfl ?_
        exact ⟨by rw [HV.out], by go_grown⟩
      have HE4 : Hid (R = if (decide (12 < al) || decide (12 ≤ cu)) = true then crVal 9 false zC else if noB (⟨cw, ⟨bt, bk, bv, bs⟩, ci, ⟨at', ak, av, sa⟩⟩ : Chg) = true then crVal 0 false zC else crVal 0 true (⟨cw, ⟨bt, bk, bv, bs⟩, ci, ⟨at', ak, av, sa⟩⟩ : Chg)) := by show _ = _; rw [HE3.out, if_pos h2]
      clear HE3
      subst h2
      obtain ⟨k0, k1⟩ := HKb.out w4 gk
      have hcon := HRo.out w4 g
      clear HRo
      go_wp2_with fail
      refine hcon.mono ?_
      rintro e w5 ⟨rfl, g5⟩
      have g := g.trans (g5.mono g.size)
      have gy := gy.trans (g5.mono gy.size)
      have gc := gc.trans (g5.mono gc.size)
      have hcount := HCo.out w5 g
      clear hcon g5 k0 k1 gk HKb HCo
      by_cases h12 : 12 < al
      · have d12 : (12 : Int) < (al : Int) := by omega
        have HV : Hid (R = .agg #[.int .i64 9, .bool false, .bool false, .int .i64 0, .int .i64 0, .int .i64 0, .string ⟨#[]⟩, .bool false, .int .i64 0, .int .i64 0, .int .i64 0, .string ⟨#[]⟩]) := by show _ = _; rw [HE4.out]; simp [h12, crVal, zC, zR]
        have hcon := HBad.out 9 w5
        clear HE4 HC h12 hcount
        go_wp2_with fail
        refine hcon.mono ?_
        rintro e w9 ⟨rfl, g9⟩
        have g := g.trans (g9.mono g.size)
        have gy := gy.trans (g9.mono gy.size)
        clear hcon g9
        obtain ⟨z0, z1, z2, z3, z4, z5, z6, z7, z8, z9, z10, z11, f0, f1, f2, f3, f4, f5, f6, f7, f8, f9, f10, f11⟩ := HOb.out w9 gy
        go_wp2_with fail
        refine bodyPost_ret (v := .agg #[.int .i64 9, .bool false, .bool false, .int .i64 0, .int .i64 0, .int .i64 0, .string ⟨#[]⟩, .bool false, .int .i64 0, .int .i64 0, .int .i64 0, .string ⟨#[]⟩]) (by simp [results, Tryz.results48, go_sem, *]) rfl ?_
        exact ⟨by rw [HV.out], by go_grown⟩
      have d12 : ¬ (12 : Int) < (al : Int) := by omega
      by_cases hcu : 12 ≤ cu
      · have dcu : (12 : Int) ≤ (cu : Int) := by omega
        have HV : Hid (R = .agg #[.int .i64 9, .bool false, .bool false, .int .i64 0, .int .i64 0, .int .i64 0, .string ⟨#[]⟩, .bool false, .int .i64 0, .int .i64 0, .int .i64 0, .string ⟨#[]⟩]) := by show _ = _; rw [HE4.out]; simp [hcu, crVal, zC, zR]
        have hcon := HBad.out 9 w5
        clear HE4 HC h12 hcu
        go_wp2_with fail
        refine hcount.mono ?_
        rintro e w6 ⟨rfl, hw6⟩
        subst hw6
        go_wp2_with fail
        refine hcon.mono ?_
        rintro e w9 ⟨rfl, g9⟩
        have g := g.trans (g9.mono g.size)
        have gy := gy.trans (g9.mono gy.size)
        clear hcon hcount g9
        obtain ⟨z0, z1, z2, z3, z4, z5, z6, z7, z8, z9, z10, z11, f0, f1, f2, f3, f4, f5, f6, f7, f8, f9, f10, f11⟩ := HOb.out w9 gy
        go_wp2_with fail
        refine bodyPost_ret (v := .agg #[.int .i64 9, .bool false, .bool false, .int .i64 0, .int .i64 0, .int .i64 0, .string ⟨#[]⟩, .bool false, .int .i64 0, .int .i64 0, .int .i64 0, .string ⟨#[]⟩]) (by simp [results, Tryz.results48, go_sem, *]) rfl ?_
        exact ⟨by rw [HV.out], by go_grown⟩
      have dcu : ¬ (12 : Int) ≤ (cu : Int) := by omega
      have HE5 : Hid (R = if noB (⟨cw, ⟨bt, bk, bv, bs⟩, ci, ⟨at', ak, av, sa⟩⟩ : Chg) = true then crVal 0 false zC else crVal 0 true (⟨cw, ⟨bt, bk, bv, bs⟩, ci, ⟨at', ak, av, sa⟩⟩ : Chg)) := by show _ = _; rw [HE4.out]; simp [h12, hcu]
      obtain ⟨nb, hnb⟩ : ∃ nb, noB (⟨cw, ⟨bt, bk, bv, bs⟩, ci, ⟨at', ak, av, sa⟩⟩ : Chg) = nb := ⟨_, rfl⟩
      have HNb : Hid (noB (⟨cw, ⟨bt, bk, bv, bs⟩, ci, ⟨at', ak, av, sa⟩⟩ : Chg) = nb) := hnb
      rw [hnb] at HE5
      clear HE4 HBad hnb h12 hcu
      obtain ⟨c0, c1, c2, c3, c4, c5, c6, c7, c8, c9⟩ := HC.out w5 gc
      dsimp only at c0 c1 c2 c3 c4 c5 c6 c7 c8 c9
      go_wp2_with fail
      refine hcount.mono ?_
      rintro e w6 ⟨rfl, hw6⟩
      subst hw6
      clear hcount
      go_upto_region 12 with (fail)
      go_cut [69] from 57 (fun s wx => s = .bool nb ∧ Below w6.heap.size w6 wx)
      case first =>
        clear HE5 HC HOb
        cases cw
        · go_wp2_with fail
          go_meet
          case rel => exact ⟨by rw [← HNb.out]; simp [noB], Below.refl _ _⟩
        cases ci
        · go_wp2_with fail
          go_meet
          case rel => exact ⟨by rw [← HNb.out]; simp [noB], Below.refl _ _⟩
        by_cases ht : bt = at'
        case neg =>
          have d : (bt == at') = false := by simpa using ht
          go_wp2_with fail
          go_meet
          case rel => exact ⟨by rw [← HNb.out]; simp [noB, rwEq, ht], Below.refl _ _⟩
        subst ht
        by_cases hk : bk = ak
        case neg =>
          have d : (bk == ak) = false := by simpa using hk
          go_wp2_with fail
          go_meet
          case rel => exact ⟨by rw [← HNb.out]; simp [noB, rwEq, hk], Below.refl _ _⟩
        subst hk
        by_cases hv : bv = av
        case neg =>
          have d : (bv == av) = false := by simpa using hv
          go_wp2_with fail
          go_meet
          case rel => exact ⟨by rw [← HNb.out]; simp [noB, rwEq, hv], Below.refl _ _⟩
        subst hv
        by_cases hs : bs = sa
        case neg =>
          have d : ¬ bs.toList = sa.toList := fun h => hs (by rw [ByteArray.toList_eq, ByteArray.toList_eq] at h; exact ByteArray.ext (Array.toList_inj.1 h))
          go_wp2_with fail
          go_meet
          case rel => exact ⟨by rw [← HNb.out]; simp [noB, rwEq, hs], Below.refl _ _⟩
        subst hs
        go_wp2_with fail
        go_meet
        case rel => exact ⟨by rw [← HNb.out]; simp [noB, rwEq], Below.refl _ _⟩
      case rest =>
        obtain ⟨rfl, g7⟩ := hcut
        have g := g.trans (g7.mono g.size)
        have gy := gy.trans (g7.mono gy.size)
        have gc := gc.trans (g7.mono gc.size)
        clear g7 c0 c1 c2 c3 c4 c5 c6 c7 c8 c9 HNb
        cases nb
        · have HV : Hid (R = .agg #[.int .i64 0, .bool true, .bool cw, .int .i64 bt, .int .i64 bk, .int .i64 bv, .string bs, .bool ci, .int .i64 at', .int .i64 ak, .int .i64 av, .string sa]) := HE5.out
          clear HE5
          obtain ⟨c0, c1, c2, c3, c4, c5, c6, c7, c8, c9⟩ := HC.out wc gc
          dsimp only at c0 c1 c2 c3 c4 c5 c6 c7 c8 c9
          clear HC
          obtain ⟨z0, z1, z2, z3, z4, z5, z6, z7, z8, z9, z10, z11, f0, f1, f2, f3, f4, f5, f6, f7, f8, f9, f10, f11⟩ := HOb.out wc gy
          go_wp2_with fail
          refine bodyPost_ret (v := .agg #[.int .i64 0, .bool true, .bool cw, .int .i64 bt, .int .i64 bk, .int .i64 bv, .string bs, .bool ci, .int .i64 at', .int .i64 ak, .int .i64 av, .string sa]) (by simp [results, Tryz.results48, go_sem, *]) rfl ?_
          exact ⟨by rw [HV.out], by go_grown⟩
        · have HV : Hid (R = .agg #[.int .i64 0, .bool false, .bool false, .int .i64 0, .int .i64 0, .int .i64 0, .string ⟨#[]⟩, .bool false, .int .i64 0, .int .i64 0, .int .i64 0, .string ⟨#[]⟩]) := HE5.out
          clear HE5 HC
          obtain ⟨z0, z1, z2, z3, z4, z5, z6, z7, z8, z9, z10, z11, f0, f1, f2, f3, f4, f5, f6, f7, f8, f9, f10, f11⟩ := HOb.out wc gy
          go_wp2_with fail
          refine bodyPost_ret (v := .agg #[.int .i64 0, .bool false, .bool false, .int .i64 0, .int .i64 0, .int .i64 0, .string ⟨#[]⟩, .bool false, .int .i64 0, .int .i64 0, .int .i64 0, .string ⟨#[]⟩]) (by simp [results, Tryz.results48, go_sem, *]) rfl ?_
          exact ⟨by rw [HV.out], by go_grown⟩

end Go.Proofs.YtpjlpnaamkbicaaGreatDoor
