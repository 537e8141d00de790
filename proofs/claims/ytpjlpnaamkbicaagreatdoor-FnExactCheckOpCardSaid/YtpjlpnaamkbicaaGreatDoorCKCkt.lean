/-
  The program's checkTurn.
-/
import Derived.Test.YtpjlpnaamkbicaaGreatDoorCKCks
import Derived.Test.YtpjlpnaamkbicaaGreatDoorCKIsf
import Derived.Test.YtpjlpnaamkbicaaGreatDoorCKMbs
import Derived.Test.YtpjlpnaamkbicaaGreatDoorCKFci

namespace Go.Proofs.YtpjlpnaamkbicaaGreatDoor
open Go.RowKit Go.Maps
set_option linter.unusedVariables false
set_option maxRecDepth 20000

def fV (rs : List Rw) : Int → Int → Option Value := fun x y => (fR rs x y).map rwA
theorem rwK_nodup {rs : List Rw} (hu : Uniq rs) : ((rs.map rwK).map (·.1)).Nodup := by
  rw [List.map_map]
  refine List.Pairwise.map _ (fun a b hab e => ?_) hu
  simp only [Function.comp, rwK, Prod.mk.injEq] at e
  exact hab e
theorem fV_kv {rs : List Rw} (hu : Uniq rs) : kvF (rs.map rwK) = fV rs := by
  funext x y
  unfold fV
  cases hf : fR rs x y with
  | none =>
    cases hk : kvF (rs.map rwK) x y with
    | none => rfl
    | some v =>
      have h1 := (kvF_some (rs.map rwK) x y).1 (by rw [hk]; rfl)
      rw [List.map_map] at h1
      obtain ⟨r, hr, e⟩ := List.mem_map.1 h1
      simp only [Function.comp, rwK, Prod.mk.injEq] at e
      exact absurd e (fR_none.1 hf r hr)
  | some r =>
    obtain ⟨hm, e1, e2⟩ := fR_mem hf
    exact kvF_mem (rwK_nodup hu) (List.mem_map.2 ⟨r, hm, by unfold rwK; rw [e1, e2]⟩)
theorem mapF_of {w : World} {b sz : Nat} {rs : List Rw} (hu : Uniq rs) (h : MapK 97 w b (rs.map rwK) sz) : MapF 97 w b (fV rs) rs.length := by
  obtain ⟨h1, _, h3⟩ := h
  have := h3.2 (rwK_nodup hu)
  rw [List.length_map] at this
  rw [fV_kv hu, this] at h1
  exact h1
theorem rowsQ_rwF {rs : List Rw} (h : rowsQ rs = 0) : ∀ r ∈ rs, rwF r = 0 := by
  unfold rowsQ at h
  split at h
  · exact absurd h (by decide)
  · exact (rsF_zero rs none h).1
theorem kw_row {r : Rw} (h : rwF r = 0) : Kw r.t r.k := by
  have := rwF_zero h
  exact kw_small (by unfold small; omega) (by unfold small; omega)
/-- The row that the wanted change finds. -/
theorem old_row {rs : List Rw} (h : rowsQ rs = 0) {t k : Int} {r : Rw} (hf : fR rs t k = some r) : rwF r = 0 ∧ r.t = t ∧ r.k = k := by
  obtain ⟨hm, h1, h2⟩ := fR_mem hf
  exact ⟨rowsQ_rwF h r hm, h1, h2⟩
theorem wcC_at {rs : List Rw} {kd t k v : Int} {s : ByteArray} (hkd : kd = 2 ∨ kd = 3 ∨ kd = 4) (h : wcQ rs kd t k = 0) : (kd = 2 ∧ fR rs t k = none ∧ wcC rs kd t k v s = ⟨false, zR, true, ⟨t, k, v, s⟩⟩) ∨ (∃ r, fR rs t k = some r ∧ ((kd = 3 ∧ wcC rs kd t k v s = ⟨true, r, true, ⟨t, k, v, s⟩⟩) ∨ (kd = 4 ∧ wcC rs kd t k v s = ⟨true, r, false, zR⟩))) := by
  have h0 := h
  unfold wcQ at h
  unfold wcC
  rw [if_pos h0]
  cases hf : fR rs t k with
  | none =>
    rw [hf] at h
    rcases hkd with rfl | rfl | rfl
    · exact .inl ⟨rfl, rfl, rfl⟩
    · simp at h
    · simp at h
  | some r =>
    rw [hf] at h
    rcases hkd with rfl | rfl | rfl
    · simp at h
    · exact .inr ⟨r, rfl, .inl ⟨rfl, rfl⟩⟩
    · exact .inr ⟨r, rfl, .inr ⟨rfl, rfl⟩⟩
theorem wcC_chQ {rs : List Rw} {kd t k v : Int} {s : ByteArray} (hq : rowsQ rs = 0) (hkd : kd = 2 ∨ kd = 3 ∨ kd = 4) (hr : rwF ⟨t, k, v, s⟩ = 0) (h : wcQ rs kd t k = 0) : chQ (wcC rs kd t k v s) = 0 := by
  rcases wcC_at (v := v) (s := s) hkd h with ⟨_, _, e⟩ | ⟨r, hf, ⟨_, e⟩ | ⟨_, e⟩⟩
  · rw [e]; unfold chQ; simp [hr]
  · obtain ⟨h1, h2, h3⟩ := old_row hq hf
    rw [e]; unfold chQ; simp [hr, h1, h2, h3]
  · obtain ⟨h1, h2, h3⟩ := old_row hq hf
    rw [e]; unfold chQ; simp [h1]
theorem wcC_or {rs : List Rw} {kd t k v : Int} {s : ByteArray} (hkd : kd = 2 ∨ kd = 3 ∨ kd = 4) (h : wcQ rs kd t k = 0) : (wcC rs kd t k v s).was = true ∨ (wcC rs kd t k v s).is = true := by
  rcases wcC_at (v := v) (s := s) hkd h with ⟨_, _, e⟩ | ⟨r, hf, ⟨_, e⟩ | ⟨_, e⟩⟩
  · rw [e]; exact .inr rfl
  · rw [e]; exact .inl rfl
  · rw [e]; exact .inl rfl
theorem wcC_size {rs : List Rw} {kd t k v : Int} {s : ByteArray} {m : Nat} (hs : ∀ r ∈ rs, r.s.size ≤ m) (hss : s.size ≤ m) : (wcC rs kd t k v s).b.s.size ≤ m ∧ (wcC rs kd t k v s).a.s.size ≤ m := by
  have z : ByteArray.size ⟨#[]⟩ ≤ m := Nat.zero_le _
  unfold wcC
  split
  · refine ⟨?_, ?_⟩
    · show ((fR rs t k).getD zR).s.size ≤ m
      cases hf : fR rs t k with
      | none => exact z
      | some r => exact hs r (fR_mem hf).1
    · show (if kd = 4 then zR else _).s.size ≤ m
      split
      · exact z
      · exact hss
  · exact ⟨z, z⟩
/-- Four cells of a row, new. -/
def B4 (w : World) (b : Nat) : Prop := w.cell? ⟨b, 0, none⟩ = some (.int .i64 0) ∧ w.cell? ⟨b, 1, none⟩ = some (.int .i64 0) ∧ w.cell? ⟨b, 2, none⟩ = some (.int .i64 0) ∧ w.cell? ⟨b, 3, none⟩ = some (.string ⟨#[]⟩) ∧ w.frozen? ⟨b, 0, none⟩ = false ∧ w.frozen? ⟨b, 1, none⟩ = false ∧ w.frozen? ⟨b, 2, none⟩ = false ∧ w.frozen? ⟨b, 3, none⟩ = false
theorem B4.below {w w' : World} {b : Nat} (h : B4 w b) (hb : Below w.heap.size w w') (hl : b < w.heap.size) : B4 w' b :=
  ⟨(hb.cell (p := ⟨b, 0, none⟩) hl).trans h.1, (hb.cell (p := ⟨b, 1, none⟩) hl).trans h.2.1, (hb.cell (p := ⟨b, 2, none⟩) hl).trans h.2.2.1, (hb.cell (p := ⟨b, 3, none⟩) hl).trans h.2.2.2.1, (hb.frozen (p := ⟨b, 0, none⟩) hl).trans h.2.2.2.2.1, (hb.frozen (p := ⟨b, 1, none⟩) hl).trans h.2.2.2.2.2.1, (hb.frozen (p := ⟨b, 2, none⟩) hl).trans h.2.2.2.2.2.2.1, (hb.frozen (p := ⟨b, 3, none⟩) hl).trans h.2.2.2.2.2.2.2⟩

set_option maxHeartbeats 16000000 in
theorem checkTurn_any (ra : Option Addr) (rs : List Rw) (rn rc : Nat) (a : Option Addr) (xs : List TxV) (n c : Nat) (kd tx t k v : Int) (s : ByteArray) (mk : Int) (w : World) (hrn : rs.length = rn) (hq : rowsQ rs = 0) (hrs : ∀ r ∈ rs, r.s.size ≤ 1048576) (hr : Rs rwE 4 w ra rs) (hn : xs.length = n) (hm : n ≤ 4) (hs : ∀ x ∈ xs, TxOk 1048576 x) (hx : TxRd w a xs) (hkd : kd = 2 ∨ kd = 3 ∨ kd = 4) (hro : rwF ⟨t, k, v, s⟩ = 0) (hss : s.size ≤ 1048576) (hE : Errs w) :
    Calls Tryz.prog 31 #[.slice ra rn rc, .slice a n c, .agg #[.int .i64 kd, .int .i64 tx, .int .i64 t, .int .i64 k, .int .i64 v, .string s, .int .i64 mk]] w fun e w' => e = .returned (ckR rs xs kd tx t k v s) ∧ Below w.heap.size w w' := by
  obtain ⟨hr60, hu, -⟩ := rowsQ_ok hq
  have hrm : rn ≤ 60 := by omega
  have HBy : Hid (∀ V, Below w.heap.size w V → Calls Tryz.prog 62 #[.slice ra rn rc] V fun e w' => ∃ b, e = .returned (.map (some b)) ∧ Below V.heap.size V w' ∧ MapF 97 w' b (fV rs) rs.length) := fun V hV => (rowsByKey_any ra rs rn rc V hrn (by omega) (fun r h => kw_row (rowsQ_rwF hq r h)) (hr.below hV (Nat.le_refl _))).mono fun e w' h => by
    obtain ⟨b, sz, h1, _, h3, h4⟩ := h
    exact ⟨b, h1, h3, mapF_of hu h4⟩
  obtain ⟨bf, hbf⟩ : ∃ r, (fR rs t k).getD zR = r := ⟨_, rfl⟩
  obtain ⟨it, hit⟩ : ∃ x, (fR rs t k).isSome = x := ⟨_, rfl⟩
  have HLk : Hid (∀ V b, MapF 97 V b (fV rs) rs.length → (Instr.lookup 100 (.map (some b)) (.agg #[.int .i64 t, .int .i64 k]) true).run Tryz.prog V = .ok (.tuple #[.agg #[.int .i64 bf.t, .int .i64 bf.k, .int .i64 bf.v, .string bf.s], .bool it]) V) := fun V b h => by
    have h1 := h.look_ok keyT73 Tryz.underlying100 (Tryz.zeroValue31 V) (kw_row hro)
    rw [← hbf, ← hit]
    refine h1.trans ?_
    unfold fV
    cases fR rs t k <;> rfl
  have HBa : Hid (∀ V, Below w.heap.size w V → Calls Tryz.prog 63 #[.slice a n c, .int .i64 tx, .agg #[.int .i64 t, .int .i64 k]] V fun e w' => e = .returned (.bool (xs.any (hldB tx ⟨t, k⟩))) ∧ Below V.heap.size V w') := fun V hV => isBarred_any a xs n c tx t k V hn (by omega) hs (hx.below hV (Nat.le_refl _))
  have HFu : Hid (∀ V, Below w.heap.size w V → Calls Tryz.prog 66 #[.slice ra rn rc, .slice a n c, .agg #[.int .i64 t, .int .i64 k]] V fun e w' => e = .returned (.bool (fulB rs xs t k)) ∧ Below V.heap.size V w') := fun V hV => isFull_any ra rs rn rc a xs n c t k V hrn hrm (hr.below hV (Nat.le_refl _)) hn hm hs (hx.below hV (Nat.le_refl _))
  have hsz := wcC_size (t := t) (k := k) (v := v) (kd := kd) hrs hss
  have HWc : Hid (∀ V, wcQ rs kd t k = 0 → Calls Tryz.prog 64 #[.agg #[.int .i64 kd, .int .i64 tx, .int .i64 t, .int .i64 k, .int .i64 v, .string s, .int .i64 mk], .agg #[.int .i64 bf.t, .int .i64 bf.k, .int .i64 bf.v, .string bf.s]] V fun e w' => e = .returned (chVal (wcC rs kd t k v s)) ∧ Below V.heap.size V w') := fun V h => by
    rcases wcC_at (v := v) (s := s) hkd h with ⟨rfl, hf, e⟩ | ⟨r, hf, ⟨rfl, e⟩ | ⟨rfl, e⟩⟩
    · rw [e]; exact wantedChange_2 tx t k v s mk _ _ _ _ V
    · rw [hf] at hbf; have hbf : r = bf := hbf; subst hbf
      rw [e]; exact wantedChange_3 tx t k v s mk _ _ _ _ V
    · rw [hf] at hbf; have hbf : r = bf := hbf; subst hbf
      rw [e]; exact wantedChange_4 tx t k v s mk _ _ _ _ V
  have HMy : Hid (∀ V, Below w.heap.size w V → wcQ rs kd t k = 0 → Calls Tryz.prog 65 #[.slice ra rn rc, chVal (wcC rs kd t k v s)] V fun e w' => e = .returned (.int .i64 (mayM rs (wcC rs kd t k v s))) ∧ Below V.heap.size V w') := fun V hV h => by
    have hc := wcC_chQ (v := v) (s := s) hq hkd hro h
    have e : mbQ rs (wcC rs kd t k v s) = mayM rs (wcC rs kd t k v s) := by rw [mayM_eq hq hc]; unfold mbQ orI; simp [hq, hc]
    rw [← e]
    exact implMayBe_any ra rs rn rc _ _ _ _ _ _ _ _ _ _ V hrn (by omega) (fun r h => Nat.le_trans (hrs r h) (by decide)) (Nat.le_trans hsz.1 (by decide)) (Nat.le_trans hsz.2 (by decide)) (hr.below hV (Nat.le_refl _)) (hE.below hV)
  have HNo : Hid (∀ V, wcQ rs kd t k = 0 → Calls Tryz.prog 67 #[chVal (wcC rs kd t k v s)] V fun e w' => e = .returned (.bool (noB (wcC rs kd t k v s))) ∧ Below V.heap.size V w') := fun V h => by
    rw [← nthB_no (wcC_or hkd h)]
    exact isNothing_any _ _ _ _ _ _ _ _ _ _ V
  have HOw : Hid (∀ V, Calls Tryz.prog 68 #[chVal (wcC rs kd t k v s)] V fun e w' => e = .returned (chVal (wcC rs kd t k v s)) ∧ Below V.heap.size V w') := fun V => ownChange_any _ _ _ _ _ _ _ _ _ _ V hsz.1 hsz.2
  have HKo : Hid (∀ V, Calls Tryz.prog 61 #[.agg #[.int .i64 t, .int .i64 k, .int .i64 v, .string s]] V fun e w' => e = .returned (.agg #[.int .i64 t, .int .i64 k]) ∧ Below V.heap.size V w') := fun V => keyOf_any t k v s V
  have HE : Hid (ckR rs xs kd tx t k v s = if xs.any (hldB tx ⟨t, k⟩) = true then crVal 7 false zC else if wcQ rs kd t k = 0 then (if mayM rs (wcC rs kd t k v s) = 0 then (if fulB rs xs t k = true then crVal 9 false zC else if noB (wcC rs kd t k v s) = true then crVal 0 false zC else crVal 0 true (wcC rs kd t k v s)) else crVal (mayM rs (wcC rs kd t k v s)) false zC) else crVal (wcQ rs kd t k) false zC) := rfl
  have HWq : Hid (wcQ rs kd t k = if kd = 2 ∧ it = true then 6 else if kd ≠ 2 ∧ it = false then 4 else 0) := by show _ = _; rw [← hit]; rfl
  obtain ⟨R, hR⟩ : ∃ R, ckR rs xs kd tx t k v s = R := ⟨_, rfl⟩
  rw [hR] at HE ⊢
  clear hrn hq hrs hr hn hm hs hx hro hss hE hr60 hu hrm hsz hR hbf hit hkd
  generalize wcC rs kd t k v s = cc at HWc HMy HNo HOw HE
  generalize wcQ rs kd t k = wq at HWc HMy HNo HE HWq
  generalize mayM rs cc = mq at HMy HE
  generalize fulB rs xs t k = fb at HFu HE
  generalize xs.any (hldB tx ⟨t, k⟩) = hb at HBa HE
  obtain ⟨cw, ⟨bt, bk, bv, bs⟩, ci, ⟨at', ak, av, sa⟩⟩ := cc
  obtain ⟨ft, fk, fv, fs⟩ := bf
  dsimp only [chVal] at HWc HMy HNo HOw HLk
  go_enter Tryz.func31, Tryz.ntmps31
  go_upto_region 1 with (fail)
  generalize hY : World.alloc _ _ = Y
  have gY : Below w.heap.size w Y := by rw [← hY]; go_grown
  have hO : OpAt Y w.heap.size kd tx t k v s mk := by rw [← hY]; exact ⟨by simp [go_sem], by simp [go_sem], by simp [go_sem], by simp [go_sem], by simp [go_sem], by simp [go_sem], by simp [go_sem]⟩
  have hA : R12 Y (w.heap.size + 1) := by rw [← hY]; exact ⟨by simp [go_sem], by simp [go_sem], by simp [go_sem], by simp [go_sem], by simp [go_sem], by simp [go_sem], by simp [go_sem], by simp [go_sem], by simp [go_sem], by simp [go_sem], by simp [go_sem], by simp [go_sem], by simp [go_sem], by simp [go_sem], by simp [go_sem], by simp [go_sem], by simp [go_sem], by simp [go_sem], by simp [go_sem], by simp [go_sem], by simp [go_sem], by simp [go_sem], by simp [go_sem], by simp [go_sem]⟩
  clear hY
  obtain ⟨ob, hob⟩ : ∃ ob, w.heap.size = ob := ⟨_, rfl⟩
  obtain ⟨ab, hab⟩ : ∃ ab, ob + 1 = ab := ⟨_, rfl⟩
  have hwo : w.heap.size ≤ ob := by omega
  have hwa : w.heap.size ≤ ab := by omega
  rw [hob] at hO hA
  rw [hab] at hA
  simp only [hob, hab]
  have HOB : Hid (w.heap.size = ob) := hob
  clear hob hab
  have lO := hO.lt
  have lA := hA.lt
  have HOp : Hid (∀ V, Below Y.heap.size Y V → OpAt V ob kd tx t k v s mk) := fun V hV => hO.below hV lO
  have HOb : Hid (∀ V, Below Y.heap.size Y V → R12 V ab) := fun V hV => hA.below hV lA
  clear hA
  obtain ⟨c0, c1, c2, c3, c4, c5, c6⟩ := hO
  have hcon := HKo.out Y
  clear HKo
  go_wp2_with fail
  refine hcon.mono ?_
  rintro e w1 ⟨rfl, g1⟩
  clear hcon c0 c1 c2 c3 c4 c5 c6
  have g := gY.trans (g1.mono gY.size)
  go_upto_region 2 with (fail)
  generalize hZ : World.alloc _ _ = w2
  have gZ : Below w1.heap.size w1 w2 := by rw [← hZ]; go_grown
  have hK : w2.cell? ⟨w1.heap.size, 0, none⟩ = some (.int .i64 t) ∧ w2.cell? ⟨w1.heap.size, 1, none⟩ = some (.int .i64 k) := by rw [← hZ]; exact ⟨by simp [go_sem], by simp [go_sem]⟩
  clear hZ
  have g := g.trans (gZ.mono g.size)
  have gy := g1.trans (gZ.mono g1.size)
  clear gZ g1
  generalize w1.heap.size = kb at hK ⊢
  have lk := World.block_lt_of_cell? _ _ hK.1
  have HKb : Hid (∀ V, Below w2.heap.size w2 V → V.cell? ⟨kb, 0, none⟩ = some (.int .i64 t) ∧ V.cell? ⟨kb, 1, none⟩ = some (.int .i64 k)) := fun V hV => ⟨(hV.cell (p := ⟨kb, 0, none⟩) lk).trans hK.1, (hV.cell (p := ⟨kb, 1, none⟩) lk).trans hK.2⟩
  clear hK lk
  go_cut [8, 9] from 12 (fun s8 s9 wc => ∃ bb : Nat, s8 = .pointer (some ⟨bb, 0, none⟩) ∧ s9 = .bool it ∧ Below w2.heap.size w2 wc ∧ RowC wc bb 0 ⟨ft, fk, fv, fs⟩)
  case first =>
    clear HBa HFu HWc HMy HNo HOw HE HWq HOp HOb gy
    refine wp_region_held_drew (S := fun V => (V.cell? ⟨kb, 0, none⟩ = some (.int .i64 t) ∧ V.cell? ⟨kb, 1, none⟩ = some (.int .i64 k)) ∧ Below w2.heap.size w2 V) (by kernel_rfl) ⟨HKb.out _ (Below.refl _ w2).drew, (Below.refl _ w2).drew⟩ (fun hHeld => ?_)
    generalize World.drew _ = D0 at hHeld ⊢
    refine wpAnyH_take (i := 0) (v := ?v1) rfl (by kernel_rfl) (by kernel_rfl) (by kernel_rfl) (fun _ _ _ h => h) (Or.inl ⟨by kernel_rfl, ?h1⟩) hHeld ?_
    case h1 => intro u hSw; clear hSw; go_simp; try with_reducible rfl
    try simp only [List.getElem_toArray]
    try simp only [List.getElem_cons_succ]
    try simp only [List.getElem_cons_zero]
    try simp only [Act.put]
    try simp only [List.setIfInBounds_toArray]
    try simp only [List.set]
    refine wpAnyH_take (i := 2) (v := ?v2) rfl (by kernel_rfl) (by kernel_rfl) (by kernel_rfl) (fun _ _ _ h => h) (Or.inl ⟨by kernel_rfl, ?h2⟩) hHeld ?_
    case h2 => intro u hSw; (obtain ⟨⟨k0, k1⟩, -⟩ := hSw); go_simp; try with_reducible rfl
    try simp only [List.getElem_toArray]
    try simp only [List.getElem_cons_succ]
    try simp only [List.getElem_cons_zero]
    try simp only [Act.put]
    try simp only [List.setIfInBounds_toArray]
    try simp only [List.set]
    refine wpAnyH_ready (rs := [1, 7]) (by kernel_rfl) (by simp) ?_
    refine AllReadyH.cons rfl (fun K hK => ?_) (AllReadyH.cons rfl (fun K hK => ?_) AllReadyH.nil)
    · go_simp
      go_wp2_with (go_at_call 62; refine (HBy.out _ (g.trans (hHeld.2.mono g.size))).mono ?_; rintro e U1 ⟨mb, rfl, gg, hF⟩)
      refine hK.out _ _ ⟨HKb.out _ (hHeld.2.trans (gg.mono hHeld.2.size)), hHeld.2.trans (gg.mono hHeld.2.size)⟩ (fun hHeld => ?_)
      clear hK K
      clear gg
      try simp only [Act.put]
      try simp only [List.setIfInBounds_toArray]
      try simp only [List.set]
      refine wpAnyH_ready (rs := [3, 7]) (by kernel_rfl) (by simp) ?_
      refine AllReadyH.cons rfl (fun K hK => ?_) (AllReadyH.cons rfl (fun K hK => ?_) AllReadyH.nil)
      · have hl := HLk.out U1 mb hF
        go_simp
        refine hK.out _ _ hHeld (fun hHeld => ?_)
        clear hK K hF hl
        try simp only [Act.put]
        try simp only [List.setIfInBounds_toArray]
        try simp only [List.set]
        refine wpAnyH_take (i := 4) (v := ?v3) rfl (by kernel_rfl) (by kernel_rfl) (by kernel_rfl) (fun _ _ _ h => h) (Or.inl ⟨by kernel_rfl, ?h3⟩) hHeld ?_
        case h3 => intro u hSw; clear hSw; go_simp; try with_reducible rfl
        try simp only [List.getElem_toArray]
        try simp only [List.getElem_cons_succ]
        try simp only [List.getElem_cons_zero]
        try simp only [Act.put]
        try simp only [List.setIfInBounds_toArray]
        try simp only [List.set]
        refine wpAnyH_take (i := 5) (v := ?v4) rfl (by kernel_rfl) (by kernel_rfl) (by kernel_rfl) (fun _ _ _ h => h) (Or.inl ⟨by kernel_rfl, ?h4⟩) hHeld ?_
        case h4 => intro u hSw; clear hSw; go_simp; try with_reducible rfl
        try simp only [List.getElem_toArray]
        try simp only [List.getElem_cons_succ]
        try simp only [List.getElem_cons_zero]
        try simp only [Act.put]
        try simp only [List.setIfInBounds_toArray]
        try simp only [List.set]
        refine wpAnyH_take (i := 6) (v := ?v5) rfl (by kernel_rfl) (by kernel_rfl) (by kernel_rfl) (fun _ _ _ h => h) (Or.inl ⟨by kernel_rfl, ?h5⟩) hHeld ?_
        case h5 => intro u hSw; clear hSw; go_simp; try with_reducible rfl
        try simp only [List.getElem_toArray]
        try simp only [List.getElem_cons_succ]
        try simp only [List.getElem_cons_zero]
        try simp only [Act.put]
        try simp only [List.setIfInBounds_toArray]
        try simp only [List.set]
        refine wpAnyH_ready (rs := [7]) (by kernel_rfl) (by simp) ?_
        refine AllReadyH.cons rfl (fun K hK => ?_) AllReadyH.nil
        have gg : Below U1.heap.size U1 (U1.alloc (.cells #[.int .i64 0, .int .i64 0, .int .i64 0, .string ⟨#[]⟩] 31)) := by go_grown
        have hab : w2.heap.size ≤ U1.heap.size := hHeld.2.size
        have hB : B4 (U1.alloc (.cells #[.int .i64 0, .int .i64 0, .int .i64 0, .string ⟨#[]⟩] 31)) U1.heap.size := ⟨by simp [go_sem], by simp [go_sem], by simp [go_sem], by simp [go_sem], by simp [go_sem], by simp [go_sem], by simp [go_sem], by simp [go_sem]⟩
        go_simp
        refine hK.out _ _ ⟨HKb.out _ (hHeld.2.trans (gg.mono hHeld.2.size)), hHeld.2.trans (gg.mono hHeld.2.size)⟩ (fun hHeld => ?_)
        clear hK K gg
        generalize U1.alloc (.cells #[.int .i64 0, .int .i64 0, .int .i64 0, .string ⟨#[]⟩] 31) = U3 at hHeld hB ⊢
        generalize U1.heap.size = bb at hB hab ⊢
        try simp only [Act.put]
        try simp only [List.setIfInBounds_toArray]
        try simp only [List.set]
        have T : Turned bb (bb + 1) U3 (set4 U3 bb 0 (.int .i64 ft) (.int .i64 fk) (.int .i64 fv) (.string fs)) := set4_turned
        have hbl := T.toBelow (B := w2.heap.size) hHeld.2.size hab
        have b3 : RowC (set4 U3 bb 0 (.int .i64 ft) (.int .i64 fk) (.int .i64 fv) (.string fs)) bb 0 ⟨ft, fk, fv, fs⟩ := ⟨by simp [set4, go_sem, hB.1], by simp [set4, go_sem, hB.2.1], by simp [set4, go_sem, hB.2.2.1], by simp [set4, go_sem, hB.2.2.2.1]⟩
        have hx := hHeld.2.trans hbl
        unfold set4 at b3 hbl hx
        clear T
        obtain ⟨a0, a1, a2, a3, f0, f1, f2, f3⟩ := hB
        refine wpAnyH_ready (rs := [8]) (by kernel_rfl) (by simp) ?_
        refine AllReadyH.cons rfl (fun K hK => ?_) AllReadyH.nil
        go_simp
        refine hK.out _ _ ⟨HKb.out _ hx, hx⟩ (fun hHeld => ?_)
        clear hK K
        try simp only [Act.put]
        try simp only [List.setIfInBounds_toArray]
        try simp only [List.set]
        refine wpAnyH_take (i := 9) (v := ?v6) rfl (by kernel_rfl) (by kernel_rfl) (by kernel_rfl) (fun _ _ _ h => h) (Or.inl ⟨by kernel_rfl, ?h6⟩) hHeld ?_
        case h6 => intro u hSw; clear hSw; go_simp; try with_reducible rfl
        try simp only [List.getElem_toArray]
        try simp only [List.getElem_cons_succ]
        try simp only [List.getElem_cons_zero]
        try simp only [Act.put]
        try simp only [List.setIfInBounds_toArray]
        try simp only [List.set]
        refine wpAnyH_done (by kernel_rfl) ?_ _
        go_wp2_with fail
        go_meet
        case rel => exact ⟨bb, rfl, rfl, hHeld.2, b3⟩
      · have gg : Below U1.heap.size U1 (U1.alloc (.cells #[.int .i64 0, .int .i64 0, .int .i64 0, .string ⟨#[]⟩] 31)) := by go_grown
        have hab : w2.heap.size ≤ U1.heap.size := hHeld.2.size
        have hB : B4 (U1.alloc (.cells #[.int .i64 0, .int .i64 0, .int .i64 0, .string ⟨#[]⟩] 31)) U1.heap.size := ⟨by simp [go_sem], by simp [go_sem], by simp [go_sem], by simp [go_sem], by simp [go_sem], by simp [go_sem], by simp [go_sem], by simp [go_sem]⟩
        have hF := hF.below gg
        go_simp
        refine hK.out _ _ ⟨HKb.out _ (hHeld.2.trans (gg.mono hHeld.2.size)), hHeld.2.trans (gg.mono hHeld.2.size)⟩ (fun hHeld => ?_)
        clear hK K gg
        generalize U1.alloc (.cells #[.int .i64 0, .int .i64 0, .int .i64 0, .string ⟨#[]⟩] 31) = U4 at hHeld hB hF ⊢
        generalize U1.heap.size = bb at hB hab ⊢
        try simp only [Act.put]
        try simp only [List.setIfInBounds_toArray]
        try simp only [List.set]
        refine wpAnyH_ready (rs := [3]) (by kernel_rfl) (by simp) ?_
        refine AllReadyH.cons rfl (fun K hK => ?_) AllReadyH.nil
        have hl := HLk.out U4 mb hF
        go_simp
        refine hK.out _ _ hHeld (fun hHeld => ?_)
        clear hK K hF hl
        try simp only [Act.put]
        try simp only [List.setIfInBounds_toArray]
        try simp only [List.set]
        refine wpAnyH_take (i := 4) (v := ?v7) rfl (by kernel_rfl) (by kernel_rfl) (by kernel_rfl) (fun _ _ _ h => h) (Or.inl ⟨by kernel_rfl, ?h7⟩) hHeld ?_
        case h7 => intro u hSw; clear hSw; go_simp; try with_reducible rfl
        try simp only [List.getElem_toArray]
        try simp only [List.getElem_cons_succ]
        try simp only [List.getElem_cons_zero]
        try simp only [Act.put]
        try simp only [List.setIfInBounds_toArray]
        try simp only [List.set]
        refine wpAnyH_take (i := 5) (v := ?v8) rfl (by kernel_rfl) (by kernel_rfl) (by kernel_rfl) (fun _ _ _ h => h) (Or.inl ⟨by kernel_rfl, ?h8⟩) hHeld ?_
        case h8 => intro u hSw; clear hSw; go_simp; try with_reducible rfl
        try simp only [List.getElem_toArray]
        try simp only [List.getElem_cons_succ]
        try simp only [List.getElem_cons_zero]
        try simp only [Act.put]
        try simp only [List.setIfInBounds_toArray]
        try simp only [List.set]
        refine wpAnyH_take (i := 6) (v := ?v9) rfl (by kernel_rfl) (by kernel_rfl) (by kernel_rfl) (fun _ _ _ h => h) (Or.inl ⟨by kernel_rfl, ?h9⟩) hHeld ?_
        case h9 => intro u hSw; clear hSw; go_simp; try with_reducible rfl
        try simp only [List.getElem_toArray]
        try simp only [List.getElem_cons_succ]
        try simp only [List.getElem_cons_zero]
        try simp only [Act.put]
        try simp only [List.setIfInBounds_toArray]
        try simp only [List.set]
        have T : Turned bb (bb + 1) U4 (set4 U4 bb 0 (.int .i64 ft) (.int .i64 fk) (.int .i64 fv) (.string fs)) := set4_turned
        have hbl := T.toBelow (B := w2.heap.size) hHeld.2.size hab
        have b3 : RowC (set4 U4 bb 0 (.int .i64 ft) (.int .i64 fk) (.int .i64 fv) (.string fs)) bb 0 ⟨ft, fk, fv, fs⟩ := ⟨by simp [set4, go_sem, hB.1], by simp [set4, go_sem, hB.2.1], by simp [set4, go_sem, hB.2.2.1], by simp [set4, go_sem, hB.2.2.2.1]⟩
        have hx := hHeld.2.trans hbl
        unfold set4 at b3 hbl hx
        clear T
        obtain ⟨a0, a1, a2, a3, f0, f1, f2, f3⟩ := hB
        refine wpAnyH_ready (rs := [8]) (by kernel_rfl) (by simp) ?_
        refine AllReadyH.cons rfl (fun K hK => ?_) AllReadyH.nil
        go_simp
        refine hK.out _ _ ⟨HKb.out _ hx, hx⟩ (fun hHeld => ?_)
        clear hK K
        try simp only [Act.put]
        try simp only [List.setIfInBounds_toArray]
        try simp only [List.set]
        refine wpAnyH_take (i := 9) (v := ?v10) rfl (by kernel_rfl) (by kernel_rfl) (by kernel_rfl) (fun _ _ _ h => h) (Or.inl ⟨by kernel_rfl, ?h10⟩) hHeld ?_
        case h10 => intro u hSw; clear hSw; go_simp; try with_reducible rfl
        try simp only [List.getElem_toArray]
        try simp only [List.getElem_cons_succ]
        try simp only [List.getElem_cons_zero]
        try simp only [Act.put]
        try simp only [List.setIfInBounds_toArray]
        try simp only [List.set]
        refine wpAnyH_done (by kernel_rfl) ?_ _
        go_wp2_with fail
        go_meet
        case rel => exact ⟨bb, rfl, rfl, hHeld.2, b3⟩
    · have gg : Below D0.heap.size D0 (D0.alloc (.cells #[.int .i64 0, .int .i64 0, .int .i64 0, .string ⟨#[]⟩] 31)) := by go_grown
      have hab : w2.heap.size ≤ D0.heap.size := hHeld.2.size
      have hB : B4 (D0.alloc (.cells #[.int .i64 0, .int .i64 0, .int .i64 0, .string ⟨#[]⟩] 31)) D0.heap.size := ⟨by simp [go_sem], by simp [go_sem], by simp [go_sem], by simp [go_sem], by simp [go_sem], by simp [go_sem], by simp [go_sem], by simp [go_sem]⟩
      go_simp
      refine hK.out _ _ ⟨HKb.out _ (hHeld.2.trans (gg.mono hHeld.2.size)), hHeld.2.trans (gg.mono hHeld.2.size)⟩ (fun hHeld => ?_)
      clear hK K gg
      generalize D0.alloc (.cells #[.int .i64 0, .int .i64 0, .int .i64 0, .string ⟨#[]⟩] 31) = U6 at hHeld hB ⊢
      generalize D0.heap.size = bb at hB hab ⊢
      try simp only [Act.put]
      try simp only [List.setIfInBounds_toArray]
      try simp only [List.set]
      refine wpAnyH_ready (rs := [1]) (by kernel_rfl) (by simp) ?_
      refine AllReadyH.cons rfl (fun K hK => ?_) AllReadyH.nil
      have lB : bb < U6.heap.size := World.block_lt_of_cell? _ _ hB.1
      go_simp
      go_wp2_with (go_at_call 62; refine (HBy.out _ (g.trans (hHeld.2.mono g.size))).mono ?_; rintro e U7 ⟨mb, rfl, gg, hF⟩)
      refine hK.out _ _ ⟨HKb.out _ (hHeld.2.trans (gg.mono hHeld.2.size)), hHeld.2.trans (gg.mono hHeld.2.size)⟩ (fun hHeld => ?_)
      clear hK K
      have hB := hB.below gg lB
      clear lB
      clear gg
      try simp only [Act.put]
      try simp only [List.setIfInBounds_toArray]
      try simp only [List.set]
      refine wpAnyH_ready (rs := [3]) (by kernel_rfl) (by simp) ?_
      refine AllReadyH.cons rfl (fun K hK => ?_) AllReadyH.nil
      have hl := HLk.out U7 mb hF
      go_simp
      refine hK.out _ _ hHeld (fun hHeld => ?_)
      clear hK K hF hl
      try simp only [Act.put]
      try simp only [List.setIfInBounds_toArray]
      try simp only [List.set]
      refine wpAnyH_take (i := 4) (v := ?v11) rfl (by kernel_rfl) (by kernel_rfl) (by kernel_rfl) (fun _ _ _ h => h) (Or.inl ⟨by kernel_rfl, ?h11⟩) hHeld ?_
      case h11 => intro u hSw; clear hSw; go_simp; try with_reducible rfl
      try simp only [List.getElem_toArray]
      try simp only [List.getElem_cons_succ]
      try simp only [List.getElem_cons_zero]
      try simp only [Act.put]
      try simp only [List.setIfInBounds_toArray]
      try simp only [List.set]
      refine wpAnyH_take (i := 5) (v := ?v12) rfl (by kernel_rfl) (by kernel_rfl) (by kernel_rfl) (fun _ _ _ h => h) (Or.inl ⟨by kernel_rfl, ?h12⟩) hHeld ?_
      case h12 => intro u hSw; clear hSw; go_simp; try with_reducible rfl
      try simp only [List.getElem_toArray]
      try simp only [List.getElem_cons_succ]
      try simp only [List.getElem_cons_zero]
      try simp only [Act.put]
      try simp only [List.setIfInBounds_toArray]
      try simp only [List.set]
      refine wpAnyH_take (i := 6) (v := ?v13) rfl (by kernel_rfl) (by kernel_rfl) (by kernel_rfl) (fun _ _ _ h => h) (Or.inl ⟨by kernel_rfl, ?h13⟩) hHeld ?_
      case h13 => intro u hSw; clear hSw; go_simp; try with_reducible rfl
      try simp only [List.getElem_toArray]
      try simp only [List.getElem_cons_succ]
      try simp only [List.getElem_cons_zero]
      try simp only [Act.put]
      try simp only [List.setIfInBounds_toArray]
      try simp only [List.set]
      have T : Turned bb (bb + 1) U7 (set4 U7 bb 0 (.int .i64 ft) (.int .i64 fk) (.int .i64 fv) (.string fs)) := set4_turned
      have hbl := T.toBelow (B := w2.heap.size) hHeld.2.size hab
      have b3 : RowC (set4 U7 bb 0 (.int .i64 ft) (.int .i64 fk) (.int .i64 fv) (.string fs)) bb 0 ⟨ft, fk, fv, fs⟩ := ⟨by simp [set4, go_sem, hB.1], by simp [set4, go_sem, hB.2.1], by simp [set4, go_sem, hB.2.2.1], by simp [set4, go_sem, hB.2.2.2.1]⟩
      have hx := hHeld.2.trans hbl
      unfold set4 at b3 hbl hx
      clear T
      obtain ⟨a0, a1, a2, a3, f0, f1, f2, f3⟩ := hB
      refine wpAnyH_ready (rs := [8]) (by kernel_rfl) (by simp) ?_
      refine AllReadyH.cons rfl (fun K hK => ?_) AllReadyH.nil
      go_simp
      refine hK.out _ _ ⟨HKb.out _ hx, hx⟩ (fun hHeld => ?_)
      clear hK K
      try simp only [Act.put]
      try simp only [List.setIfInBounds_toArray]
      try simp only [List.set]
      refine wpAnyH_take (i := 9) (v := ?v14) rfl (by kernel_rfl) (by kernel_rfl) (by kernel_rfl) (fun _ _ _ h => h) (Or.inl ⟨by kernel_rfl, ?h14⟩) hHeld ?_
      case h14 => intro u hSw; clear hSw; go_simp; try with_reducible rfl
      try simp only [List.getElem_toArray]
      try simp only [List.getElem_cons_succ]
      try simp only [List.getElem_cons_zero]
      try simp only [Act.put]
      try simp only [List.setIfInBounds_toArray]
      try simp only [List.set]
      refine wpAnyH_done (by kernel_rfl) ?_ _
      go_wp2_with fail
      go_meet
      case rel => exact ⟨bb, rfl, rfl, hHeld.2, b3⟩
  case rest =>
    obtain ⟨bb, rfl, rfl, gk, hRo⟩ := hcut
    obtain ⟨w3, hw3⟩ : ∃ w3, w3 = wc := ⟨_, rfl⟩
    subst hw3
    have g := g.trans (gk.mono g.size)
    have gy := gy.trans (gk.mono gy.size)
    have lb := World.block_lt_of_cell? _ _ hRo.c0
    have HRow : Hid (∀ V, Below w3.heap.size w3 V → RowC V bb 0 ⟨ft, fk, fv, fs⟩) := fun V hV => hRo.below hV lb
    clear HBy HLk hRo lb
    have hcon := HBa.out w3 g
    obtain ⟨k0, k1⟩ := HKb.out w3 gk
    obtain ⟨c0, c1, c2, c3, c4, c5, c6⟩ := HOp.out w3 gy
    clear HBa
    go_wp2_with fail
    refine hcon.mono ?_
    rintro e w4 ⟨rfl, g3⟩
    clear hcon k0 k1 c0 c1 c2 c3 c4 c5 c6
    have g := g.trans (g3.mono g.size)
    have gy := gy.trans (g3.mono gy.size)
    have gk := gk.trans (g3.mono gk.size)
    cases hb
    case true =>
      have HV : Hid (R = .agg #[.int .i64 7, .bool false, .bool false, .int .i64 0, .int .i64 0, .int .i64 0, .string ⟨#[]⟩, .bool false, .int .i64 0, .int .i64 0, .int .i64 0, .string ⟨#[]⟩]) := by show _ = _; rw [HE.out]; rfl
      clear HE HRow
      obtain ⟨o0, o1, o2, o3, o4, o5, o6, o7, o8, o9, o10, o11, p0, p1, p2, p3, p4, p5, p6, p7, p8, p9, p10, p11⟩ := HOb.out w4 gy
      go_wp2_with fail
      refine bodyPost_ret (v := .agg #[.int .i64 7, .bool false, .bool false, .int .i64 0, .int .i64 0, .int .i64 0, .string ⟨#[]⟩, .bool false, .int .i64 0, .int .i64 0, .int .i64 0, .string ⟨#[]⟩]) (by simp [results, Tryz.results31, go_sem, *]) rfl ?_
      exact ⟨by rw [HV.out], by go_grown⟩
    have HE2 : Hid (wq = 0 → R = if mq = 0 then (if fb = true then crVal 9 false zC else if noB ⟨cw, ⟨bt, bk, bv, bs⟩, ci, ⟨at', ak, av, sa⟩⟩ = true then crVal 0 false zC else crVal 0 true ⟨cw, ⟨bt, bk, bv, bs⟩, ci, ⟨at', ak, av, sa⟩⟩) else crVal mq false zC) := fun h => by rw [HE.out, if_neg (by simp), if_pos h]
    have HE1 : Hid (wq ≠ 0 → R = crVal wq false zC) := fun h => by rw [HE.out, if_neg (by simp), if_neg h]
    clear HE
    cases it
    case true =>
      by_cases h2 : kd = 2
      · have d : (kd == 2) = true := by simp [h2]
        have HV : Hid (R = .agg #[.int .i64 6, .bool false, .bool false, .int .i64 0, .int .i64 0, .int .i64 0, .string ⟨#[]⟩, .bool false, .int .i64 0, .int .i64 0, .int .i64 0, .string ⟨#[]⟩]) := by
          have e : wq = 6 := by rw [HWq.out]; simp [h2]
          rw [HE1.out (by rw [e]; decide), e]; rfl
        clear HE1 HE2 HWq HRow h2
        obtain ⟨c0, c1, c2, c3, c4, c5, c6⟩ := HOp.out w4 gy
        obtain ⟨o0, o1, o2, o3, o4, o5, o6, o7, o8, o9, o10, o11, p0, p1, p2, p3, p4, p5, p6, p7, p8, p9, p10, p11⟩ := HOb.out w4 gy
        go_wp2_with fail
        refine bodyPost_ret (v := .agg #[.int .i64 6, .bool false, .bool false, .int .i64 0, .int .i64 0, .int .i64 0, .string ⟨#[]⟩, .bool false, .int .i64 0, .int .i64 0, .int .i64 0, .string ⟨#[]⟩]) (by simp [results, Tryz.results31, go_sem, *]) rfl ?_
        exact ⟨by rw [HV.out], by go_grown⟩
      · have d : (kd == 2) = false := by simp [h2]
        have hWq : Hid (wq = 0) := by show _ = _; rw [HWq.out]; simp [h2]
        obtain ⟨c0, c1, c2, c3, c4, c5, c6⟩ := HOp.out w4 gy
        clear HE1 HWq h2
        go_upto_region 9 with (fail)
        clear c0 c1 c2 c3 c4 c5 c6 d
        have HE3 : Hid (R = if mq = 0 then (if fb = true then crVal 9 false zC else if noB ⟨cw, ⟨bt, bk, bv, bs⟩, ci, ⟨at', ak, av, sa⟩⟩ = true then crVal 0 false zC else crVal 0 true ⟨cw, ⟨bt, bk, bv, bs⟩, ci, ⟨at', ak, av, sa⟩⟩) else crVal mq false zC) := HE2.out (by simp [hWq.out])
        obtain ⟨c0, c1, c2, c3, c4, c5, c6⟩ := HOp.out w4 gy
        obtain ⟨b0, b1, b2, b3⟩ := HRow.out w4 g3
        dsimp only at b0 b1 b2 b3
        have hcon := HWc.out w4 (by simp [hWq.out])
        clear HE2 HWc HRow
        go_wp2_with fail
        refine hcon.mono ?_
        rintro e w5 ⟨rfl, g5⟩
        clear hcon c0 c1 c2 c3 c4 c5 c6 b0 b1 b2 b3
        have g := g.trans (g5.mono g.size)
        have gy := gy.trans (g5.mono gy.size)
        have gk := gk.trans (g5.mono gk.size)
        clear g5 g3
        go_upto_region 10 with (fail)
        generalize hZ : World.alloc _ _ = Z
        have gZ : Below w5.heap.size w5 Z := by rw [← hZ]; go_grown
        have hC : ChC Z w5.heap.size 0 ⟨cw, ⟨bt, bk, bv, bs⟩, ci, ⟨at', ak, av, sa⟩⟩ := by rw [← hZ]; exact ⟨by simp [go_sem], by simp [go_sem], by simp [go_sem], by simp [go_sem], by simp [go_sem], by simp [go_sem], by simp [go_sem], by simp [go_sem], by simp [go_sem], by simp [go_sem]⟩
        clear hZ
        have g := g.trans (gZ.mono g.size)
        have gy := gy.trans (gZ.mono gy.size)
        have gk := gk.trans (gZ.mono gk.size)
        clear gZ
        generalize w5.heap.size = cb at hC ⊢
        have lC := hC.lt
        have HC : Hid (∀ V, Below Z.heap.size Z V → ChC V cb 0 ⟨cw, ⟨bt, bk, bv, bs⟩, ci, ⟨at', ak, av, sa⟩⟩) := fun V hV => hC.below hV lC
        have hcon := HMy.out Z g (by simp [hWq.out])
        obtain ⟨c0, c1, c2, c3, c4, c5, c6, c7, c8, c9⟩ := hC
        dsimp only at c0 c1 c2 c3 c4 c5 c6 c7 c8 c9
        clear HMy lC
        go_wp2_with fail
        refine hcon.mono ?_
        rintro e w6 ⟨rfl, gc⟩
        clear hcon c0 c1 c2 c3 c4 c5 c6 c7 c8 c9
        have g := g.trans (gc.mono g.size)
        have gy := gy.trans (gc.mono gy.size)
        have gk := gk.trans (gc.mono gk.size)
        by_cases h2 : mq = 0
        case neg =>
          have d1 : (mq != 0) = true := by simpa using h2
          have HV : Hid (R = .agg #[.int .i64 mq, .bool false, .bool false, .int .i64 0, .int .i64 0, .int .i64 0, .string ⟨#[]⟩, .bool false, .int .i64 0, .int .i64 0, .int .i64 0, .string ⟨#[]⟩]) := by show _ = _; rw [HE3.out, if_neg h2]; rfl
          clear HE3 h2 HC
          obtain ⟨o0, o1, o2, o3, o4, o5, o6, o7, o8, o9, o10, o11, p0, p1, p2, p3, p4, p5, p6, p7, p8, p9, p10, p11⟩ := HOb.out w6 gy
          go_wp2_with fail
          refine bodyPost_ret (v := .agg #[.int .i64 mq, .bool false, .bool false, .int .i64 0, .int .i64 0, .int .i64 0, .string ⟨#[]⟩, .bool false, .int .i64 0, .int .i64 0, .int .i64 0, .string ⟨#[]⟩]) (by simp [results, Tryz.results31, go_sem, *]) rfl ?_
          exact ⟨by rw [HV.out], by go_grown⟩
        have HE4 : Hid (R = if fb = true then crVal 9 false zC else if noB ⟨cw, ⟨bt, bk, bv, bs⟩, ci, ⟨at', ak, av, sa⟩⟩ = true then crVal 0 false zC else crVal 0 true ⟨cw, ⟨bt, bk, bv, bs⟩, ci, ⟨at', ak, av, sa⟩⟩) := by show _ = _; rw [HE3.out, if_pos h2]
        clear HE3
        subst h2
        have hcon := HFu.out w6 g
        obtain ⟨k0, k1⟩ := HKb.out w6 gk
        clear HFu HKb
        go_wp2_with fail
        refine hcon.mono ?_
        rintro e w7 ⟨rfl, g7⟩
        clear hcon k0 k1 gk
        have g := g.trans (g7.mono g.size)
        have gy := gy.trans (g7.mono gy.size)
        have gc := gc.trans (g7.mono gc.size)
        clear g7
        cases fb
        case true =>
          have HV : Hid (R = .agg #[.int .i64 9, .bool false, .bool false, .int .i64 0, .int .i64 0, .int .i64 0, .string ⟨#[]⟩, .bool false, .int .i64 0, .int .i64 0, .int .i64 0, .string ⟨#[]⟩]) := by show _ = _; rw [HE4.out]; rfl
          clear HE4 HC
          obtain ⟨o0, o1, o2, o3, o4, o5, o6, o7, o8, o9, o10, o11, p0, p1, p2, p3, p4, p5, p6, p7, p8, p9, p10, p11⟩ := HOb.out w7 gy
          go_wp2_with fail
          refine bodyPost_ret (v := .agg #[.int .i64 9, .bool false, .bool false, .int .i64 0, .int .i64 0, .int .i64 0, .string ⟨#[]⟩, .bool false, .int .i64 0, .int .i64 0, .int .i64 0, .string ⟨#[]⟩]) (by simp [results, Tryz.results31, go_sem, *]) rfl ?_
          exact ⟨by rw [HV.out], by go_grown⟩
        have HE5 : Hid (R = if noB ⟨cw, ⟨bt, bk, bv, bs⟩, ci, ⟨at', ak, av, sa⟩⟩ = true then crVal 0 false zC else crVal 0 true ⟨cw, ⟨bt, bk, bv, bs⟩, ci, ⟨at', ak, av, sa⟩⟩) := by show _ = _; rw [HE4.out]; rfl
        clear HE4
        have hcon := HNo.out w7 (by simp [hWq.out])
        have hC := HC.out w7 gc
        obtain ⟨c0, c1, c2, c3, c4, c5, c6, c7, c8, c9⟩ := hC
        dsimp only at c0 c1 c2 c3 c4 c5 c6 c7 c8 c9
        clear HNo
        go_wp2_with fail
        refine hcon.mono ?_
        rintro e w8 ⟨rfl, g8⟩
        clear hcon c0 c1 c2 c3 c4 c5 c6 c7 c8 c9
        have g := g.trans (g8.mono g.size)
        have gy := gy.trans (g8.mono gy.size)
        have gc := gc.trans (g8.mono gc.size)
        clear g8
        generalize noB ⟨cw, ⟨bt, bk, bv, bs⟩, ci, ⟨at', ak, av, sa⟩⟩ = nb at HE5 ⊢
        cases nb
        case true =>
          have HV : Hid (R = .agg #[.int .i64 0, .bool false, .bool false, .int .i64 0, .int .i64 0, .int .i64 0, .string ⟨#[]⟩, .bool false, .int .i64 0, .int .i64 0, .int .i64 0, .string ⟨#[]⟩]) := HE5.out
          clear HE5 HC
          obtain ⟨o0, o1, o2, o3, o4, o5, o6, o7, o8, o9, o10, o11, p0, p1, p2, p3, p4, p5, p6, p7, p8, p9, p10, p11⟩ := HOb.out w8 gy
          go_wp2_with fail
          refine bodyPost_ret (v := .agg #[.int .i64 0, .bool false, .bool false, .int .i64 0, .int .i64 0, .int .i64 0, .string ⟨#[]⟩, .bool false, .int .i64 0, .int .i64 0, .int .i64 0, .string ⟨#[]⟩]) (by simp [results, Tryz.results31, go_sem, *]) rfl ?_
          exact ⟨by rw [HV.out], by go_grown⟩
        have HV : Hid (R = .agg #[.int .i64 0, .bool true, .bool cw, .int .i64 bt, .int .i64 bk, .int .i64 bv, .string bs, .bool ci, .int .i64 at', .int .i64 ak, .int .i64 av, .string sa]) := HE5.out
        clear HE5
        have hcon := HOw.out w8
        obtain ⟨c0, c1, c2, c3, c4, c5, c6, c7, c8, c9⟩ := HC.out w8 gc
        dsimp only at c0 c1 c2 c3 c4 c5 c6 c7 c8 c9
        clear HOw HC
        go_wp2_with fail
        refine hcon.mono ?_
        rintro e w9 ⟨rfl, g9⟩
        clear hcon c0 c1 c2 c3 c4 c5 c6 c7 c8 c9
        have g := g.trans (g9.mono g.size)
        have gy := gy.trans (g9.mono gy.size)
        clear g9 gc
        obtain ⟨o0, o1, o2, o3, o4, o5, o6, o7, o8, o9, o10, o11, p0, p1, p2, p3, p4, p5, p6, p7, p8, p9, p10, p11⟩ := HOb.out w9 gy
        go_wp2_with fail
        refine bodyPost_ret (v := .agg #[.int .i64 0, .bool true, .bool cw, .int .i64 bt, .int .i64 bk, .int .i64 bv, .string bs, .bool ci, .int .i64 at', .int .i64 ak, .int .i64 av, .string sa]) (by simp [results, Tryz.results31, go_sem, *]) rfl ?_
        exact ⟨by rw [HV.out], by go_grown⟩
    case false =>
      by_cases h2 : kd = 2
      · have d : (kd != 2) = false := by simp [h2]
        have hWq : Hid (wq = 0) := by show _ = _; rw [HWq.out]; simp [h2]
        obtain ⟨c0, c1, c2, c3, c4, c5, c6⟩ := HOp.out w4 gy
        clear HE1 HWq h2
        go_upto_region 9 with (fail)
        clear c0 c1 c2 c3 c4 c5 c6 d
        have HE3 : Hid (R = if mq = 0 then (if fb = true then crVal 9 false zC else if noB ⟨cw, ⟨bt, bk, bv, bs⟩, ci, ⟨at', ak, av, sa⟩⟩ = true then crVal 0 false zC else crVal 0 true ⟨cw, ⟨bt, bk, bv, bs⟩, ci, ⟨at', ak, av, sa⟩⟩) else crVal mq false zC) := HE2.out (by simp [hWq.out])
        obtain ⟨c0, c1, c2, c3, c4, c5, c6⟩ := HOp.out w4 gy
        obtain ⟨b0, b1, b2, b3⟩ := HRow.out w4 g3
        dsimp only at b0 b1 b2 b3
        have hcon := HWc.out w4 (by simp [hWq.out])
        clear HE2 HWc HRow
        go_wp2_with fail
        refine hcon.mono ?_
        rintro e w5 ⟨rfl, g5⟩
        clear hcon c0 c1 c2 c3 c4 c5 c6 b0 b1 b2 b3
        have g := g.trans (g5.mono g.size)
        have gy := gy.trans (g5.mono gy.size)
        have gk := gk.trans (g5.mono gk.size)
        clear g5 g3
        go_upto_region 10 with (fail)
        generalize hZ : World.alloc _ _ = Z
        have gZ : Below w5.heap.size w5 Z := by rw [← hZ]; go_grown
        have hC : ChC Z w5.heap.size 0 ⟨cw, ⟨bt, bk, bv, bs⟩, ci, ⟨at', ak, av, sa⟩⟩ := by rw [← hZ]; exact ⟨by simp [go_sem], by simp [go_sem], by simp [go_sem], by simp [go_sem], by simp [go_sem], by simp [go_sem], by simp [go_sem], by simp [go_sem], by simp [go_sem], by simp [go_sem]⟩
        clear hZ
        have g := g.trans (gZ.mono g.size)
        have gy := gy.trans (gZ.mono gy.size)
        have gk := gk.trans (gZ.mono gk.size)
        clear gZ
        generalize w5.heap.size = cb at hC ⊢
        have lC := hC.lt
        have HC : Hid (∀ V, Below Z.heap.size Z V → ChC V cb 0 ⟨cw, ⟨bt, bk, bv, bs⟩, ci, ⟨at', ak, av, sa⟩⟩) := fun V hV => hC.below hV lC
        have hcon := HMy.out Z g (by simp [hWq.out])
        obtain ⟨c0, c1, c2, c3, c4, c5, c6, c7, c8, c9⟩ := hC
        dsimp only at c0 c1 c2 c3 c4 c5 c6 c7 c8 c9
        clear HMy lC
        go_wp2_with fail
        refine hcon.mono ?_
        rintro e w6 ⟨rfl, gc⟩
        clear hcon c0 c1 c2 c3 c4 c5 c6 c7 c8 c9
        have g := g.trans (gc.mono g.size)
        have gy := gy.trans (gc.mono gy.size)
        have gk := gk.trans (gc.mono gk.size)
        by_cases h2 : mq = 0
        case neg =>
          have d1 : (mq != 0) = true := by simpa using h2
          have HV : Hid (R = .agg #[.int .i64 mq, .bool false, .bool false, .int .i64 0, .int .i64 0, .int .i64 0, .string ⟨#[]⟩, .bool false, .int .i64 0, .int .i64 0, .int .i64 0, .string ⟨#[]⟩]) := by show _ = _; rw [HE3.out, if_neg h2]; rfl
          clear HE3 h2 HC
          obtain ⟨o0, o1, o2, o3, o4, o5, o6, o7, o8, o9, o10, o11, p0, p1, p2, p3, p4, p5, p6, p7, p8, p9, p10, p11⟩ := HOb.out w6 gy
          go_wp2_with fail
          refine bodyPost_ret (v := .agg #[.int .i64 mq, .bool false, .bool false, .int .i64 0, .int .i64 0, .int .i64 0, .string ⟨#[]⟩, .bool false, .int .i64 0, .int .i64 0, .int .i64 0, .string ⟨#[]⟩]) (by simp [results, Tryz.results31, go_sem, *]) rfl ?_
          exact ⟨by rw [HV.out], by go_grown⟩
        have HE4 : Hid (R = if fb = true then crVal 9 false zC else if noB ⟨cw, ⟨bt, bk, bv, bs⟩, ci, ⟨at', ak, av, sa⟩⟩ = true then crVal 0 false zC else crVal 0 true ⟨cw, ⟨bt, bk, bv, bs⟩, ci, ⟨at', ak, av, sa⟩⟩) := by show _ = _; rw [HE3.out, if_pos h2]
        clear HE3
        subst h2
        have hcon := HFu.out w6 g
        obtain ⟨k0, k1⟩ := HKb.out w6 gk
        clear HFu HKb
        go_wp2_with fail
        refine hcon.mono ?_
        rintro e w7 ⟨rfl, g7⟩
        clear hcon k0 k1 gk
        have g := g.trans (g7.mono g.size)
        have gy := gy.trans (g7.mono gy.size)
        have gc := gc.trans (g7.mono gc.size)
        clear g7
        cases fb
        case true =>
          have HV : Hid (R = .agg #[.int .i64 9, .bool false, .bool false, .int .i64 0, .int .i64 0, .int .i64 0, .string ⟨#[]⟩, .bool false, .int .i64 0, .int .i64 0, .int .i64 0, .string ⟨#[]⟩]) := by show _ = _; rw [HE4.out]; rfl
          clear HE4 HC
          obtain ⟨o0, o1, o2, o3, o4, o5, o6, o7, o8, o9, o10, o11, p0, p1, p2, p3, p4, p5, p6, p7, p8, p9, p10, p11⟩ := HOb.out w7 gy
          go_wp2_with fail
          refine bodyPost_ret (v := .agg #[.int .i64 9, .bool false, .bool false, .int .i64 0, .int .i64 0, .int .i64 0, .string ⟨#[]⟩, .bool false, .int .i64 0, .int .i64 0, .int .i64 0, .string ⟨#[]⟩]) (by simp [results, Tryz.results31, go_sem, *]) rfl ?_
          exact ⟨by rw [HV.out], by go_grown⟩
        have HE5 : Hid (R = if noB ⟨cw, ⟨bt, bk, bv, bs⟩, ci, ⟨at', ak, av, sa⟩⟩ = true then crVal 0 false zC else crVal 0 true ⟨cw, ⟨bt, bk, bv, bs⟩, ci, ⟨at', ak, av, sa⟩⟩) := by show _ = _; rw [HE4.out]; rfl
        clear HE4
        have hcon := HNo.out w7 (by simp [hWq.out])
        have hC := HC.out w7 gc
        obtain ⟨c0, c1, c2, c3, c4, c5, c6, c7, c8, c9⟩ := hC
        dsimp only at c0 c1 c2 c3 c4 c5 c6 c7 c8 c9
        clear HNo
        go_wp2_with fail
        refine hcon.mono ?_
        rintro e w8 ⟨rfl, g8⟩
        clear hcon c0 c1 c2 c3 c4 c5 c6 c7 c8 c9
        have g := g.trans (g8.mono g.size)
        have gy := gy.trans (g8.mono gy.size)
        have gc := gc.trans (g8.mono gc.size)
        clear g8
        generalize noB ⟨cw, ⟨bt, bk, bv, bs⟩, ci, ⟨at', ak, av, sa⟩⟩ = nb at HE5 ⊢
        cases nb
        case true =>
          have HV : Hid (R = .agg #[.int .i64 0, .bool false, .bool false, .int .i64 0, .int .i64 0, .int .i64 0, .string ⟨#[]⟩, .bool false, .int .i64 0, .int .i64 0, .int .i64 0, .string ⟨#[]⟩]) := HE5.out
          clear HE5 HC
          obtain ⟨o0, o1, o2, o3, o4, o5, o6, o7, o8, o9, o10, o11, p0, p1, p2, p3, p4, p5, p6, p7, p8, p9, p10, p11⟩ := HOb.out w8 gy
          go_wp2_with fail
          refine bodyPost_ret (v := .agg #[.int .i64 0, .bool false, .bool false, .int .i64 0, .int .i64 0, .int .i64 0, .string ⟨#[]⟩, .bool false, .int .i64 0, .int .i64 0, .int .i64 0, .string ⟨#[]⟩]) (by simp [results, Tryz.results31, go_sem, *]) rfl ?_
          exact ⟨by rw [HV.out], by go_grown⟩
        have HV : Hid (R = .agg #[.int .i64 0, .bool true, .bool cw, .int .i64 bt, .int .i64 bk, .int .i64 bv, .string bs, .bool ci, .int .i64 at', .int .i64 ak, .int .i64 av, .string sa]) := HE5.out
        clear HE5
        have hcon := HOw.out w8
        obtain ⟨c0, c1, c2, c3, c4, c5, c6, c7, c8, c9⟩ := HC.out w8 gc
        dsimp only at c0 c1 c2 c3 c4 c5 c6 c7 c8 c9
        clear HOw HC
        go_wp2_with fail
        refine hcon.mono ?_
        rintro e w9 ⟨rfl, g9⟩
        clear hcon c0 c1 c2 c3 c4 c5 c6 c7 c8 c9
        have g := g.trans (g9.mono g.size)
        have gy := gy.trans (g9.mono gy.size)
        clear g9 gc
        obtain ⟨o0, o1, o2, o3, o4, o5, o6, o7, o8, o9, o10, o11, p0, p1, p2, p3, p4, p5, p6, p7, p8, p9, p10, p11⟩ := HOb.out w9 gy
        go_wp2_with fail
        refine bodyPost_ret (v := .agg #[.int .i64 0, .bool true, .bool cw, .int .i64 bt, .int .i64 bk, .int .i64 bv, .string bs, .bool ci, .int .i64 at', .int .i64 ak, .int .i64 av, .string sa]) (by simp [results, Tryz.results31, go_sem, *]) rfl ?_
        exact ⟨by rw [HV.out], by go_grown⟩
      · have d : (kd != 2) = true := by simp [h2]
        have HV : Hid (R = .agg #[.int .i64 4, .bool false, .bool false, .int .i64 0, .int .i64 0, .int .i64 0, .string ⟨#[]⟩, .bool false, .int .i64 0, .int .i64 0, .int .i64 0, .string ⟨#[]⟩]) := by
          have e : wq = 4 := by rw [HWq.out]; simp [h2]
          rw [HE1.out (by rw [e]; decide), e]; rfl
        clear HE1 HE2 HWq HRow h2
        obtain ⟨c0, c1, c2, c3, c4, c5, c6⟩ := HOp.out w4 gy
        obtain ⟨o0, o1, o2, o3, o4, o5, o6, o7, o8, o9, o10, o11, p0, p1, p2, p3, p4, p5, p6, p7, p8, p9, p10, p11⟩ := HOb.out w4 gy
        go_wp2_with fail
        refine bodyPost_ret (v := .agg #[.int .i64 4, .bool false, .bool false, .int .i64 0, .int .i64 0, .int .i64 0, .string ⟨#[]⟩, .bool false, .int .i64 0, .int .i64 0, .int .i64 0, .string ⟨#[]⟩]) (by simp [results, Tryz.results31, go_sem, *]) rfl ?_
        exact ⟨by rw [HV.out], by go_grown⟩

end Go.Proofs.YtpjlpnaamkbicaaGreatDoor
