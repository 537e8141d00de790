/-
  The model's TxsFault.
-/
import Derived.Test.YtpjlpnaamkbicaaGreatDoorCKTxh
import Derived.Test.YtpjlpnaamkbicaaGreatDoorCKTxi
import Derived.Deep.CutRange

namespace Go.Proofs.YtpjlpnaamkbicaaGreatDoor
open Go.RowKit Go.Maps
set_option linter.unusedVariables false
set_option maxRecDepth 20000

/-- Whether no two lock one key, as the model asks it; the code of one of several; of all. -/
def apB (xs : List TxV) : Bool := xs.all fun x => x.l.all fun k => lkr xs k == x.id
def prvT (xs : List TxV) (j : Nat) : Int := if j = 0 then 0 else (xs.getD (j - 1) ⟨0, [], [], []⟩).id
def txAt (xs : List TxV) (j : Nat) : Int :=
  let x := xs.getD j ⟨0, [], [], []⟩
  if inW x.id 1 99 = true then (if j ≠ 0 ∧ x.id ≤ prvT xs j then 1 else alnQ x) else 3
def txsQ (xs : List TxV) : Int :=
  if 4 < xs.length then 2 else if fstQ (txAt xs) (List.range xs.length) = 0 then (if apB xs = true then (if 12 < cntU xs then 2 else 0) else 7) else fstQ (txAt xs) (List.range xs.length)

set_option maxHeartbeats 8000000 in
theorem l10Apart_any (a : Option Addr) (xs : List TxV) (n c : Nat) (w : World) (hn : xs.length = n) (hm : n ≤ 1048576) (hs : ∀ x ∈ xs, TxOk 1048576 x) (hr : TxRd w a xs) :
    Calls Tryz.prog 43 #[.slice a n c] w fun e w' => e = .returned (.bool (apB xs)) ∧ Below w.heap.size w w' := by
  have HN : Hid (xs.length = n) := hn
  have HR : Hid (∀ V, Below w.heap.size w V → TxRd V a xs) := fun V hV => hr.below hV (Nat.le_refl _)
  have HS : Hid (∀ x ∈ xs, TxOk 1048576 x) := hs
  have HLk : Hid (∀ (V : World) (x y : Int), Below w.heap.size w V → Calls Tryz.prog 78 #[.slice a n c, .agg #[.int .i64 x, .int .i64 y]] V fun e w' => e = .returned (.int .i64 (lkr xs ⟨x, y⟩)) ∧ Below V.heap.size V w') := fun V x y hV => l10Lock_any a xs n c x y V hn hm hs (hr.below hV (Nat.le_refl _))
  obtain ⟨Q, hQ⟩ : ∃ Q, apB xs = Q := ⟨_, rfl⟩
  have HQ : Hid (apB xs = Q) := hQ
  rw [hQ]
  clear hn hr hs hQ
  go_enter Tryz.func43, Tryz.ntmps43
  go_wp2_with fail
  go_loopw [3] (fun i wr => ∃ j : Nat, j ≤ n ∧ i = .int .i64 j ∧ Hid (∀ x ∈ xs.take j, (x.l.all fun k => lkr xs k == x.id) = true) ∧ Below w.heap.size w wr) (fun i _ => n - (intOf i).toNat)
  case atStart => exact ⟨0, Nat.zero_le _, rfl, by intro e he; simp at he, Below.refl _ _⟩
  case round =>
    obtain ⟨j, hj, rfl, hA, g⟩ := hrel
    by_cases hlt : j < n
    · have hjn : (j : Int) < (n : Int) := by omega
      obtain ⟨t, ht⟩ := at_ltT (xs := xs) (i := j) (by rw [HN.out]; exact hlt)
      have hok := (HS.out t (List.mem_of_getElem? ht)).2.2.2
      have HX0 : Hid (∀ k ∈ t.l, (lkr xs k == t.id) = false → Q = false) := fun k hk h => by
        rw [← HQ.out]
        unfold apB
        rw [List.all_eq_false]
        refine ⟨t, List.mem_of_getElem? ht, ?_⟩
        intro h2
        rw [List.all_eq_true] at h2
        rw [h2 k hk] at h
        cases h
      have HA2 : Hid ((∀ k ∈ t.l, (lkr xs k == t.id) = true) → ∀ x ∈ xs.take (j + 1), (x.l.all fun k => lkr xs k == x.id) = true) := fun h => take_all (p := fun x : TxV => (x.l.all fun k => lkr xs k == x.id) = true) hA.out ht (List.all_eq_true.2 h)
      have HT : Hid (xs[j]? = some t) := ht
      clear ht hA
      obtain ⟨ln, hln⟩ : ∃ ln, t.l.length = ln := ⟨_, rfl⟩
      have HLn : Hid (t.l.length = ln) := hln
      rw [hln] at hok
      clear hln
      go_upto_region 5 with (fail)
      go_loopw [4] (fun i wr => ∃ k : Nat, k ≤ ln ∧ i = .int .i64 k ∧ Hid (∀ e ∈ t.l.take k, (lkr xs e == t.id) = true) ∧ Below w.heap.size w wr) (fun i _ => ln - (intOf i).toNat)
      case atStart => exact ⟨0, Nat.zero_le _, rfl, by intro e he; simp at he, g⟩
      case round =>
        clear g
        obtain ⟨k, hk, rfl, hB, g⟩ := hrel
        obtain ⟨b, off, ua, ma, la, uc, mc, lc, rfl, Z⟩ := (HR.out _ g).at HT.out
        have hl := Z.l
        obtain ⟨c0, c1, c2, c3, -, -, -⟩ := Z
        rw [HLn.out] at c3
        by_cases hkl : k < ln
        · have hkn : (k : Int) < (ln : Int) := by omega
          obtain ⟨e, he⟩ : ∃ e, t.l[k]? = some e := ⟨_, List.getElem?_eq_getElem (by rw [HLn.out]; exact hkl)⟩
          obtain ⟨eb, eo, rfl, e0, e1⟩ := hl.key he
          have HX1 : Hid ((lkr xs e == t.id) = false → Q = false) := HX0.out e (List.mem_of_getElem? he)
          have HB2 : Hid ((lkr xs e == t.id) = true → ∀ e ∈ t.l.take (k + 1), (lkr xs e == t.id) = true) := fun h => take_all (p := fun e => (lkr xs e == t.id) = true) hB.out he h
          clear he hl hB
          obtain ⟨p, q⟩ := e
          dsimp only at e0 e1
          have hcon := fun V hV => HLk.out V p q hV
          generalize lkr xs ⟨p, q⟩ = lq at hcon HX1 HB2
          generalize t.id = tid at c0 HX1 HB2
          obtain ⟨f, hf⟩ : ∃ f, (lq == tid) = f := ⟨_, rfl⟩
          rw [hf] at HX1 HB2
          have hq : (lq != tid) = !f := by rw [← hf]; rfl
          clear hf
          have lt := World.block_lt_of_cell? _ _ c0
          have le := World.block_lt_of_cell? _ _ e0
          go_upto_region 7 with (fail)
          refine wp_region_held_drew (S := fun V => Below wr.heap.size wr V) (by kernel_rfl) (Below.refl _ wr).drew (fun hHeld => ?_)
          generalize wr.drew = D0 at hHeld ⊢
          refine wpAnyH_take (i := 0) (v := ?v1) rfl (by kernel_rfl) (by kernel_rfl) (by kernel_rfl) (fun _ _ _ h => h) (Or.inl ⟨by kernel_rfl, ?h1⟩) hHeld ?_
          case h1 => intro u hSw; clear hSw; go_simp; try with_reducible rfl
          try simp only [List.getElem_toArray]
          try simp only [List.getElem_cons_succ]
          try simp only [List.getElem_cons_zero]
          try simp only [Act.put]
          try simp only [List.setIfInBounds_toArray]
          try simp only [List.set]
          refine wpAnyH_take (i := 1) (v := ?v2) rfl (by kernel_rfl) (by kernel_rfl) (by kernel_rfl) (fun _ _ _ h => h) (Or.inl ⟨by kernel_rfl, ?h2⟩) hHeld ?_
          case h2 => intro u hSw; clear hSw; go_simp; try with_reducible rfl
          try simp only [List.getElem_toArray]
          try simp only [List.getElem_cons_succ]
          try simp only [List.getElem_cons_zero]
          try simp only [Act.put]
          try simp only [List.setIfInBounds_toArray]
          try simp only [List.set]
          refine wpAnyH_take (i := 2) (v := ?v3) rfl (by kernel_rfl) (by kernel_rfl) (by kernel_rfl) (fun _ _ _ h => h) (Or.inl ⟨by kernel_rfl, ?h3⟩) hHeld ?_
          case h3 => intro u hSw; clear hSw; go_simp; try with_reducible rfl
          try simp only [List.getElem_toArray]
          try simp only [List.getElem_cons_succ]
          try simp only [List.getElem_cons_zero]
          try simp only [Act.put]
          try simp only [List.setIfInBounds_toArray]
          try simp only [List.set]
          refine wpAnyH_take (i := 3) (v := ?v4) rfl (by kernel_rfl) (by kernel_rfl) (by kernel_rfl) (fun _ _ _ h => h) (Or.inl ⟨by kernel_rfl, ?h4⟩) hHeld ?_
          case h4 => intro u hSw; clear hSw; go_simp; try with_reducible rfl
          try simp only [List.getElem_toArray]
          try simp only [List.getElem_cons_succ]
          try simp only [List.getElem_cons_zero]
          try simp only [Act.put]
          try simp only [List.setIfInBounds_toArray]
          try simp only [List.set]
          refine wpAnyH_take (i := 4) (v := ?v5) rfl (by kernel_rfl) (by kernel_rfl) (by kernel_rfl) (fun _ _ _ h => h) (Or.inl ⟨by kernel_rfl, ?h5⟩) hHeld ?_
          case h5 => intro u hSw; clear hSw; go_simp; try with_reducible rfl
          try simp only [List.getElem_toArray]
          try simp only [List.getElem_cons_succ]
          try simp only [List.getElem_cons_zero]
          try simp only [Act.put]
          try simp only [List.setIfInBounds_toArray]
          try simp only [List.set]
          refine wpAnyH_take (i := 5) (v := ?v6) rfl (by kernel_rfl) (by kernel_rfl) (by kernel_rfl) (fun _ _ _ h => h) (Or.inl ⟨by kernel_rfl, ?h6⟩) hHeld ?_
          case h6 => intro u hSw; (have c3 := (hSw.cell (p := ⟨b, off + j * 4 + 3, none⟩) lt).trans c3); clear hSw; go_simp; try with_reducible rfl
          try simp only [List.getElem_toArray]
          try simp only [List.getElem_cons_succ]
          try simp only [List.getElem_cons_zero]
          try simp only [Act.put]
          try simp only [List.setIfInBounds_toArray]
          try simp only [List.set]
          refine wpAnyH_take (i := 6) (v := ?v7) rfl (by kernel_rfl) (by kernel_rfl) (by kernel_rfl) (fun _ _ _ h => h) (Or.inl ⟨by kernel_rfl, ?h7⟩) hHeld ?_
          case h7 => intro u hSw; clear hSw; go_simp; try with_reducible rfl
          try simp only [List.getElem_toArray]
          try simp only [List.getElem_cons_succ]
          try simp only [List.getElem_cons_zero]
          try simp only [Act.put]
          try simp only [List.setIfInBounds_toArray]
          try simp only [List.set]
          refine wpAnyH_take (i := 7) (v := ?v8) rfl (by kernel_rfl) (by kernel_rfl) (by kernel_rfl) (fun _ _ _ h => h) (Or.inl ⟨by kernel_rfl, ?h8⟩) hHeld ?_
          case h8 => intro u hSw; clear hSw; go_simp; try with_reducible rfl
          try simp only [List.getElem_toArray]
          try simp only [List.getElem_cons_succ]
          try simp only [List.getElem_cons_zero]
          try simp only [Act.put]
          try simp only [List.setIfInBounds_toArray]
          try simp only [List.set]
          refine wpAnyH_take (i := 8) (v := ?v9) rfl (by kernel_rfl) (by kernel_rfl) (by kernel_rfl) (fun _ _ _ h => h) (Or.inl ⟨by kernel_rfl, ?h9⟩) hHeld ?_
          case h9 => intro u hSw; (have e0 := (hSw.cell (p := ⟨eb, eo + k * 2, none⟩) le).trans e0); (have e1 := (hSw.cell (p := ⟨eb, eo + k * 2 + 1, none⟩) le).trans e1); clear hSw; go_simp; try with_reducible rfl
          try simp only [List.getElem_toArray]
          try simp only [List.getElem_cons_succ]
          try simp only [List.getElem_cons_zero]
          try simp only [Act.put]
          try simp only [List.setIfInBounds_toArray]
          try simp only [List.set]
          refine wpAnyH_take (i := 10) (v := ?v10) rfl (by kernel_rfl) (by kernel_rfl) (by kernel_rfl) (fun _ _ _ h => h) (Or.inl ⟨by kernel_rfl, ?h10⟩) hHeld ?_
          case h10 => intro u hSw; clear hSw; go_simp; try with_reducible rfl
          try simp only [List.getElem_toArray]
          try simp only [List.getElem_cons_succ]
          try simp only [List.getElem_cons_zero]
          try simp only [Act.put]
          try simp only [List.setIfInBounds_toArray]
          try simp only [List.set]
          refine wpAnyH_take (i := 11) (v := ?v11) rfl (by kernel_rfl) (by kernel_rfl) (by kernel_rfl) (fun _ _ _ h => h) (Or.inl ⟨by kernel_rfl, ?h11⟩) hHeld ?_
          case h11 => intro u hSw; clear hSw; go_simp; try with_reducible rfl
          try simp only [List.getElem_toArray]
          try simp only [List.getElem_cons_succ]
          try simp only [List.getElem_cons_zero]
          try simp only [Act.put]
          try simp only [List.setIfInBounds_toArray]
          try simp only [List.set]
          refine wpAnyH_take (i := 12) (v := ?v12) rfl (by kernel_rfl) (by kernel_rfl) (by kernel_rfl) (fun _ _ _ h => h) (Or.inl ⟨by kernel_rfl, ?h12⟩) hHeld ?_
          case h12 => intro u hSw; clear hSw; go_simp; try with_reducible rfl
          try simp only [List.getElem_toArray]
          try simp only [List.getElem_cons_succ]
          try simp only [List.getElem_cons_zero]
          try simp only [Act.put]
          try simp only [List.setIfInBounds_toArray]
          try simp only [List.set]
          refine wpAnyH_take (i := 13) (v := ?v13) rfl (by kernel_rfl) (by kernel_rfl) (by kernel_rfl) (fun _ _ _ h => h) (Or.inl ⟨by kernel_rfl, ?h13⟩) hHeld ?_
          case h13 => intro u hSw; clear hSw; go_simp; try with_reducible rfl
          try simp only [List.getElem_toArray]
          try simp only [List.getElem_cons_succ]
          try simp only [List.getElem_cons_zero]
          try simp only [Act.put]
          try simp only [List.setIfInBounds_toArray]
          try simp only [List.set]
          refine wpAnyH_take (i := 14) (v := ?v14) rfl (by kernel_rfl) (by kernel_rfl) (by kernel_rfl) (fun _ _ _ h => h) (Or.inl ⟨by kernel_rfl, ?h14⟩) hHeld ?_
          case h14 => intro u hSw; (have c0 := (hSw.cell (p := ⟨b, off + j * 4, none⟩) lt).trans c0); clear hSw; go_simp; try with_reducible rfl
          try simp only [List.getElem_toArray]
          try simp only [List.getElem_cons_succ]
          try simp only [List.getElem_cons_zero]
          try simp only [Act.put]
          try simp only [List.setIfInBounds_toArray]
          try simp only [List.set]
          refine wpAnyH_ready (rs := [9]) (by kernel_rfl) (by simp) ?_
          refine AllReadyH.cons rfl (fun K hK => ?_) AllReadyH.nil
          go_simp
          go_wp2_with (go_at_call 78; refine (hcon _ (g.trans (hHeld.mono g.size))).mono ?_; rintro e U1 ⟨rfl, gg⟩)
          refine hK.out _ _ (hHeld.trans (gg.mono hHeld.size)) (fun hHeld => ?_)
          clear hK K
          clear gg
          try simp only [Act.put]
          try simp only [List.setIfInBounds_toArray]
          try simp only [List.set]
          refine wpAnyH_take (i := 15) (v := ?v15) rfl (by kernel_rfl) (by kernel_rfl) (by kernel_rfl) (fun _ _ _ h => h) (Or.inl ⟨by kernel_rfl, ?h15⟩) hHeld ?_
          case h15 => intro u hSw; clear hSw; go_simp; try with_reducible rfl
          try simp only [List.getElem_toArray]
          try simp only [List.getElem_cons_succ]
          try simp only [List.getElem_cons_zero]
          try simp only [Act.put]
          try simp only [List.setIfInBounds_toArray]
          try simp only [List.set]
          refine wpAnyH_done (by kernel_rfl) ?_ _
          have g := g.trans (hHeld.mono g.size)
          clear hHeld c0 c1 c2 c3 e0 e1 lt le hcon
          cases f
          · have HX : Hid (Q = false) := HX1.out rfl
            clear HX1 HB2
            go_wp2_with fail
            go_ret
            exact ⟨by rw [HX.out]; rfl, g⟩
          · have HB3 : Hid (∀ e ∈ t.l.take (k + 1), (lkr xs e == tid) = true) := HB2.out rfl
            clear HX1 HB2
            go_wp2_with fail
            go_roundw
            case rel => exact ⟨k + 1, by omega, by go_num, HB3, g⟩
            case measure => simp [intOf]; omega
        · have e : k = ln := by omega
          subst e
          have HA3 : Hid (∀ x ∈ xs.take (j + 1), (x.l.all fun k => lkr xs k == x.id) = true) := HA2.out (take_whole HLn.out hB.out)
          clear hB HA2 HX0 hl
          go_wp2_with fail
          go_roundw
          case rel => exact ⟨j + 1, by omega, by go_num, HA3, g⟩
          case measure => simp [intOf]; omega
    · have e : j = n := by omega
      subst e
      have HX : Hid (Q = true) := by show _ = _; rw [← HQ.out]; exact List.all_eq_true.2 (take_whole (p := fun x : TxV => (x.l.all fun k => lkr xs k == x.id) = true) HN.out hA.out)
      clear hA
      go_wp2_with fail
      go_ret
      exact ⟨by rw [HX.out]; rfl, g⟩

set_option maxHeartbeats 16000000 in
theorem l10Fault_any (a : Option Addr) (xs : List TxV) (n c : Nat) (w : World) (hn : xs.length = n) (hm : n ≤ 1048576) (hs : ∀ x ∈ xs, TxOk 1048576 x) (hr : TxRd w a xs) :
    Calls Tryz.prog 19 #[.slice a n c] w fun e w' => e = .returned (.int .i64 (txsQ xs)) ∧ Below w.heap.size w w' := by
  have HN : Hid (xs.length = n) := hn
  have HR : Hid (∀ V, Below w.heap.size w V → TxRd V a xs) := fun V hV => hr.below hV (Nat.le_refl _)
  have HS : Hid (∀ x ∈ xs, TxOk 1048576 x) := hs
  have HAp : Hid (∀ V, Below w.heap.size w V → Calls Tryz.prog 43 #[.slice a n c] V fun e w' => e = .returned (.bool (apB xs)) ∧ Below V.heap.size V w') := fun V hV => l10Apart_any a xs n c V hn hm hs (hr.below hV (Nat.le_refl _))
  have HCt : Hid (n ≤ 4 → ∀ V, Below w.heap.size w V → Calls Tryz.prog 44 #[.slice a n c] V fun e w' => e = .returned (.int .i64 (cntU xs)) ∧ w' = V) := fun h4 V hV => l10Count_any a xs n c V hn h4 hs (hr.below hV (Nat.le_refl _))
  obtain ⟨Q, hQ⟩ : ∃ Q, txsQ xs = Q := ⟨_, rfl⟩
  have HQ : Hid (txsQ xs = Q) := hQ
  rw [hQ]
  clear hn hr hs hQ
  go_enter Tryz.func19, Tryz.ntmps19
  by_cases h4 : 4 < n
  · have d : (4 : Int) < (n : Int) := by omega
    have HX : Hid (Q = 2) := by show _ = _; rw [← HQ.out]; unfold txsQ; rw [if_pos (by rw [HN.out]; exact h4)]
    clear HQ
    go_wp2_with fail
    go_ret
    exact ⟨by rw [HX.out]; rfl, Below.refl _ _⟩
  have d : ¬ (4 : Int) < (n : Int) := by omega
  have hn4 : n ≤ 4 := by omega
  have HQ2 : Hid ((if fstQ (txAt xs) (List.range xs.length) = 0 then (if apB xs = true then (if 12 < cntU xs then 2 else 0) else 7) else fstQ (txAt xs) (List.range xs.length)) = Q) := by
    have h := HQ.out
    unfold txsQ at h
    rw [if_neg (by rw [HN.out]; exact h4)] at h
    exact h
  clear HQ h4
  go_upto_region 4 with (fail)
  go_loopw [3] (fun i wr => ∃ j : Nat, j ≤ n ∧ i = .int .i64 j ∧ Hid (∀ i, i < j → txAt xs i = 0) ∧ Below w.heap.size w wr) (fun i _ => n - (intOf i).toNat)
  case atStart => exact ⟨0, Nat.zero_le _, rfl, fun i hi => absurd hi (Nat.not_lt_zero _), Below.refl _ _⟩
  case round =>
    obtain ⟨j, hj, rfl, hA, g⟩ := hrel
    by_cases hlt : j < n
    · have hjn : (j : Int) < (n : Int) := by omega
      obtain ⟨t, ht⟩ := at_ltT (xs := xs) (i := j) (by rw [HN.out]; exact hlt)
      have hok := HS.out t (List.mem_of_getElem? ht)
      have hgd : xs.getD j ⟨0, [], [], []⟩ = t := by rw [List.getD_eq_getElem?_getD, ht]; rfl
      have HXq : Hid (txAt xs j ≠ 0 → Q = txAt xs j) := fun h => by
        have h1 := rng_at (n := xs.length) hA.out (by rw [HN.out]; exact hlt) h
        rw [← HQ2.out, if_neg (by rw [h1]; exact h), h1]
      have HA2 : Hid (txAt xs j = 0 → ∀ i, i < j + 1 → txAt xs i = 0) := fun h => step_all hA.out h
      have HE : Hid (txAt xs j = if inW t.id 1 99 = true then (if j ≠ 0 ∧ t.id ≤ prvT xs j then 1 else alnQ t) else 3) := by show _ = _; unfold txAt; rw [hgd]
      obtain ⟨b, off, ua, ma, la, uc, mc, lc, rfl, Z⟩ := (HR.out wr g).at ht
      have HPv : Hid (j ≠ 0 → ∀ V, Below w.heap.size w V → V.cell? ⟨b, off + (j - 1) * 4, none⟩ = some (.int .i64 (prvT xs j))) := fun h0 V hV => by
        obtain ⟨t', ht'⟩ := at_ltT (xs := xs) (i := j - 1) (by rw [HN.out]; omega)
        obtain ⟨b', off', _, _, _, _, _, _, e, Z'⟩ := (HR.out V hV).at ht'
        cases e
        unfold prvT
        rw [if_neg h0, List.getD_eq_getElem?_getD, ht']
        exact Z'.c0
      clear hgd hA
      generalize txAt xs j = tq at HXq HA2 HE
      have HUn : Hid (∀ V, Below wr.heap.size wr V → Calls Tryz.prog 41 #[.pointer (some ⟨b, off + j * 4, none⟩)] V fun e w' => e = .returned (.int .i64 (fstQ (unQ t.l) t.u)) ∧ Below V.heap.size V w') := fun V hV => by
        have Z' := Z.below hV
        exact l10Undo_any b (off + j * 4) ua t.u _ uc la t.l _ lc V rfl (by have := hok.1; omega) (fun x hx => by have := hok.2.1 x hx; unfold maxLen; omega) Z'.u rfl (by have := hok.2.2.2; omega) Z'.l Z'.c1 Z'.c3
      have HMk : Hid (∀ V, Below wr.heap.size wr V → Calls Tryz.prog 42 #[.pointer (some ⟨b, off + j * 4, none⟩)] V fun e w' => e = .returned (.int .i64 (mlQ t)) ∧ Below V.heap.size V w') := fun V hV => by
        have Z' := Z.below hV
        exact l10Marks_any b (off + j * 4) t.id ua t.u _ uc ma t.m _ mc la t.l _ lc V rfl hok.1 rfl hok.2.2.1 Z'.m rfl hok.2.2.2 Z'.l Z'.c1 Z'.c2 Z'.c3
      have HAl : Hid (alnQ t = if fstQ (unQ t.l) t.u = 0 then mlQ t else fstQ (unQ t.l) t.u) := rfl
      have HC0 : Hid (∀ V, Below wr.heap.size wr V → V.cell? ⟨b, off + j * 4, none⟩ = some (.int .i64 t.id)) := fun V hV => (Z.below hV).c0
      clear Z hok ht
      generalize fstQ (unQ t.l) t.u = uq at HUn HAl
      generalize mlQ t = mq at HMk HAl
      generalize alnQ t = aq at HAl HE
      generalize prvT xs j = pv at HE HPv
      generalize t.id = tid at HE HC0
      have hcon := fun W => l1InW_any tid 1 99 W
      generalize inW tid 1 99 = f at hcon HE
      have c0 := HC0.out wr (Below.refl _ _)
      go_wp2_with fail
      refine (hcon _).mono ?_
      rintro e w1 ⟨rfl, hw⟩
      subst w1
      clear hcon
      cases f
      · have HX : Hid (Q = 3) := by
          have h : tq = 3 := by have h := HE.out; simpa using h
          rw [h] at HXq
          exact HXq.out (by decide)
        clear HE HXq HA2 HUn HMk HAl HC0 HPv c0
        go_wp2_with fail
        go_ret
        exact ⟨by rw [HX.out]; rfl, g⟩
      have HE2 : Hid (tq = if j ≠ 0 ∧ tid ≤ pv then 1 else aq) := by have h := HE.out; show _ = _; simpa using h
      clear HE c0
      obtain ⟨bb, hbb⟩ : ∃ bb, decide (j ≠ 0 ∧ tid ≤ pv) = bb := ⟨_, rfl⟩
      go_upto_region 9 with (fail)
      go_cut [39] from 10 to 49 (fun s wc => s = .bool bb ∧ Below wr.heap.size wr wc)
      case first =>
        clear HXq HA2 HUn HMk HAl HE2
        have c0 := HC0.out wr (Below.refl _ _)
        have lt := World.block_lt_of_cell? _ _ c0
        by_cases h0 : j = 0
        · have hb : bb = false := by rw [← hbb]; simp [h0]
          subst hb
          have dj : ¬ (0 : Int) < (j : Int) := by omega
          clear hbb HPv h0 HC0
          refine wp_region_held_drew (S := fun V => Below wr.heap.size wr V) (by kernel_rfl) (Below.refl _ wr).drew (fun hHeld => ?_)
          generalize wr.drew = D0 at hHeld ⊢
          refine wpAnyH_take (i := 0) (v := ?v16) rfl (by kernel_rfl) (by kernel_rfl) (by kernel_rfl) (fun _ _ _ h => h) (Or.inl ⟨by kernel_rfl, ?h16⟩) hHeld ?_
          case h16 => intro u hSw; clear hSw; go_simp; try with_reducible rfl
          try simp only [List.getElem_toArray]
          try simp only [List.getElem_cons_succ]
          try simp only [List.getElem_cons_zero]
          try simp only [Act.put]
          try simp only [List.setIfInBounds_toArray]
          try simp only [List.set]
          refine wpAnyH_take (i := 1) (v := .bool false) rfl (by kernel_rfl) (by kernel_rfl) (by kernel_rfl) (fun _ _ _ h => h) (Or.inl ⟨by kernel_rfl, ?hv1⟩) hHeld ?_
          case hv1 =>
            intro u hSw
            clear hSw hHeld
            go_simp
            try omega
          try simp only [List.getElem_toArray]
          try simp only [List.getElem_cons_succ]
          try simp only [List.getElem_cons_zero]
          try simp only [Act.put]
          try simp only [List.setIfInBounds_toArray]
          try simp only [List.set]
          refine wpAnyH_take (i := 2) (v := ?v17) rfl (by kernel_rfl) (by kernel_rfl) (by kernel_rfl) (fun _ _ _ h => h) (Or.inl ⟨by kernel_rfl, ?h17⟩) hHeld ?_
          case h17 => intro u hSw; clear hSw; go_simp; try with_reducible rfl
          try simp only [List.getElem_toArray]
          try simp only [List.getElem_cons_succ]
          try simp only [List.getElem_cons_zero]
          try simp only [Act.put]
          try simp only [List.setIfInBounds_toArray]
          try simp only [List.set]
          refine wpAnyH_take (i := 3) (v := undef) rfl (by kernel_rfl) (by kernel_rfl) (by kernel_rfl) (fun _ _ _ h => h) (Or.inr ⟨by kernel_rfl, rfl⟩) hHeld ?_
          try simp only [List.getElem_toArray]
          try simp only [List.getElem_cons_succ]
          try simp only [List.getElem_cons_zero]
          try simp only [Act.put]
          try simp only [List.setIfInBounds_toArray]
          try simp only [List.set]
          refine wpAnyH_take (i := 4) (v := undef) rfl (by kernel_rfl) (by kernel_rfl) (by kernel_rfl) (fun _ _ _ h => h) (Or.inr ⟨by kernel_rfl, rfl⟩) hHeld ?_
          try simp only [List.getElem_toArray]
          try simp only [List.getElem_cons_succ]
          try simp only [List.getElem_cons_zero]
          try simp only [Act.put]
          try simp only [List.setIfInBounds_toArray]
          try simp only [List.set]
          refine wpAnyH_take (i := 5) (v := undef) rfl (by kernel_rfl) (by kernel_rfl) (by kernel_rfl) (fun _ _ _ h => h) (Or.inr ⟨by kernel_rfl, rfl⟩) hHeld ?_
          try simp only [List.getElem_toArray]
          try simp only [List.getElem_cons_succ]
          try simp only [List.getElem_cons_zero]
          try simp only [Act.put]
          try simp only [List.setIfInBounds_toArray]
          try simp only [List.set]
          refine wpAnyH_take (i := 6) (v := undef) rfl (by kernel_rfl) (by kernel_rfl) (by kernel_rfl) (fun _ _ _ h => h) (Or.inr ⟨by kernel_rfl, rfl⟩) hHeld ?_
          try simp only [List.getElem_toArray]
          try simp only [List.getElem_cons_succ]
          try simp only [List.getElem_cons_zero]
          try simp only [Act.put]
          try simp only [List.setIfInBounds_toArray]
          try simp only [List.set]
          refine wpAnyH_take (i := 7) (v := undef) rfl (by kernel_rfl) (by kernel_rfl) (by kernel_rfl) (fun _ _ _ h => h) (Or.inr ⟨by kernel_rfl, rfl⟩) hHeld ?_
          try simp only [List.getElem_toArray]
          try simp only [List.getElem_cons_succ]
          try simp only [List.getElem_cons_zero]
          try simp only [Act.put]
          try simp only [List.setIfInBounds_toArray]
          try simp only [List.set]
          refine wpAnyH_take (i := 8) (v := undef) rfl (by kernel_rfl) (by kernel_rfl) (by kernel_rfl) (fun _ _ _ h => h) (Or.inr ⟨by kernel_rfl, rfl⟩) hHeld ?_
          try simp only [List.getElem_toArray]
          try simp only [List.getElem_cons_succ]
          try simp only [List.getElem_cons_zero]
          try simp only [Act.put]
          try simp only [List.setIfInBounds_toArray]
          try simp only [List.set]
          refine wpAnyH_take (i := 9) (v := undef) rfl (by kernel_rfl) (by kernel_rfl) (by kernel_rfl) (fun _ _ _ h => h) (Or.inr ⟨by kernel_rfl, rfl⟩) hHeld ?_
          try simp only [List.getElem_toArray]
          try simp only [List.getElem_cons_succ]
          try simp only [List.getElem_cons_zero]
          try simp only [Act.put]
          try simp only [List.setIfInBounds_toArray]
          try simp only [List.set]
          refine wpAnyH_take (i := 10) (v := undef) rfl (by kernel_rfl) (by kernel_rfl) (by kernel_rfl) (fun _ _ _ h => h) (Or.inr ⟨by kernel_rfl, rfl⟩) hHeld ?_
          try simp only [List.getElem_toArray]
          try simp only [List.getElem_cons_succ]
          try simp only [List.getElem_cons_zero]
          try simp only [Act.put]
          try simp only [List.setIfInBounds_toArray]
          try simp only [List.set]
          refine wpAnyH_take (i := 11) (v := undef) rfl (by kernel_rfl) (by kernel_rfl) (by kernel_rfl) (fun _ _ _ h => h) (Or.inr ⟨by kernel_rfl, rfl⟩) hHeld ?_
          try simp only [List.getElem_toArray]
          try simp only [List.getElem_cons_succ]
          try simp only [List.getElem_cons_zero]
          try simp only [Act.put]
          try simp only [List.setIfInBounds_toArray]
          try simp only [List.set]
          refine wpAnyH_take (i := 12) (v := undef) rfl (by kernel_rfl) (by kernel_rfl) (by kernel_rfl) (fun _ _ _ h => h) (Or.inr ⟨by kernel_rfl, rfl⟩) hHeld ?_
          try simp only [List.getElem_toArray]
          try simp only [List.getElem_cons_succ]
          try simp only [List.getElem_cons_zero]
          try simp only [Act.put]
          try simp only [List.setIfInBounds_toArray]
          try simp only [List.set]
          refine wpAnyH_take (i := 13) (v := undef) rfl (by kernel_rfl) (by kernel_rfl) (by kernel_rfl) (fun _ _ _ h => h) (Or.inr ⟨by kernel_rfl, rfl⟩) hHeld ?_
          try simp only [List.getElem_toArray]
          try simp only [List.getElem_cons_succ]
          try simp only [List.getElem_cons_zero]
          try simp only [Act.put]
          try simp only [List.setIfInBounds_toArray]
          try simp only [List.set]
          refine wpAnyH_take (i := 14) (v := ?v18) rfl (by kernel_rfl) (by kernel_rfl) (by kernel_rfl) (fun _ _ _ h => h) (Or.inl ⟨by kernel_rfl, ?h18⟩) hHeld ?_
          case h18 => intro u hSw; clear hSw; go_simp; try with_reducible rfl
          try simp only [List.getElem_toArray]
          try simp only [List.getElem_cons_succ]
          try simp only [List.getElem_cons_zero]
          try simp only [Act.put]
          try simp only [List.setIfInBounds_toArray]
          try simp only [List.set]
          refine wpAnyH_done (by kernel_rfl) ?_ _
          go_wp2_with fail
          go_meet
          case rel => exact ⟨rfl, hHeld⟩
        · obtain ⟨i, hi⟩ : ∃ i, j = i + 1 := ⟨j - 1, by omega⟩
          have p0 := HPv.out h0 wr g
          rw [show j - 1 = i by omega] at p0
          have ei : ((j : Int) - 1) = (i : Nat) := by omega
          have hin : (i : Int) < (n : Int) := by omega
          have wi : IntKind.i64.wrap ((i : Nat) : Int) = (i : Nat) := wrapI' (by omega) (by omega)
          have dj : (0 : Int) < (j : Int) := by omega
          by_cases hle : tid ≤ pv
          · have hb : bb = true := by rw [← hbb]; simp [h0, hle]
            subst hb
            clear hbb HPv h0 HC0 hi
            refine wp_region_held_drew (S := fun V => Below wr.heap.size wr V) (by kernel_rfl) (Below.refl _ wr).drew (fun hHeld => ?_)
            generalize wr.drew = D0 at hHeld ⊢
            refine wpAnyH_take (i := 0) (v := ?v19) rfl (by kernel_rfl) (by kernel_rfl) (by kernel_rfl) (fun _ _ _ h => h) (Or.inl ⟨by kernel_rfl, ?h19⟩) hHeld ?_
            case h19 => intro u hSw; clear hSw; go_simp; try with_reducible rfl
            try simp only [List.getElem_toArray]
            try simp only [List.getElem_cons_succ]
            try simp only [List.getElem_cons_zero]
            try simp only [Act.put]
            try simp only [List.setIfInBounds_toArray]
            try simp only [List.set]
            refine wpAnyH_take (i := 1) (v := .bool true) rfl (by kernel_rfl) (by kernel_rfl) (by kernel_rfl) (fun _ _ _ h => h) (Or.inl ⟨by kernel_rfl, ?hv2⟩) hHeld ?_
            case hv2 =>
              intro u hSw
              clear hSw hHeld
              go_simp
              try omega
            try simp only [List.getElem_toArray]
            try simp only [List.getElem_cons_succ]
            try simp only [List.getElem_cons_zero]
            try simp only [Act.put]
            try simp only [List.setIfInBounds_toArray]
            try simp only [List.set]
            refine wpAnyH_take (i := 2) (v := ?v20) rfl (by kernel_rfl) (by kernel_rfl) (by kernel_rfl) (fun _ _ _ h => h) (Or.inl ⟨by kernel_rfl, ?h20⟩) hHeld ?_
            case h20 => intro u hSw; clear hSw; go_simp; try with_reducible rfl
            try simp only [List.getElem_toArray]
            try simp only [List.getElem_cons_succ]
            try simp only [List.getElem_cons_zero]
            try simp only [Act.put]
            try simp only [List.setIfInBounds_toArray]
            try simp only [List.set]
            refine wpAnyH_take (i := 3) (v := ?v21) rfl (by kernel_rfl) (by kernel_rfl) (by kernel_rfl) (fun _ _ _ h => h) (Or.inl ⟨by kernel_rfl, ?h21⟩) hHeld ?_
            case h21 => intro u hSw; clear hSw; go_simp; try with_reducible rfl
            try simp only [List.getElem_toArray]
            try simp only [List.getElem_cons_succ]
            try simp only [List.getElem_cons_zero]
            try simp only [Act.put]
            try simp only [List.setIfInBounds_toArray]
            try simp only [List.set]
            refine wpAnyH_take (i := 4) (v := ?v22) rfl (by kernel_rfl) (by kernel_rfl) (by kernel_rfl) (fun _ _ _ h => h) (Or.inl ⟨by kernel_rfl, ?h22⟩) hHeld ?_
            case h22 => intro u hSw; clear hSw; go_simp; try with_reducible rfl
            try simp only [List.getElem_toArray]
            try simp only [List.getElem_cons_succ]
            try simp only [List.getElem_cons_zero]
            try simp only [Act.put]
            try simp only [List.setIfInBounds_toArray]
            try simp only [List.set]
            refine wpAnyH_take (i := 5) (v := ?v23) rfl (by kernel_rfl) (by kernel_rfl) (by kernel_rfl) (fun _ _ _ h => h) (Or.inl ⟨by kernel_rfl, ?h23⟩) hHeld ?_
            case h23 => intro u hSw; clear hSw; go_simp; try with_reducible rfl
            try simp only [List.getElem_toArray]
            try simp only [List.getElem_cons_succ]
            try simp only [List.getElem_cons_zero]
            try simp only [Act.put]
            try simp only [List.setIfInBounds_toArray]
            try simp only [List.set]
            refine wpAnyH_take (i := 6) (v := ?v24) rfl (by kernel_rfl) (by kernel_rfl) (by kernel_rfl) (fun _ _ _ h => h) (Or.inl ⟨by kernel_rfl, ?h24⟩) hHeld ?_
            case h24 => intro u hSw; (have c0 := (hSw.cell (p := ⟨b, off + j * 4, none⟩) lt).trans c0); clear hSw; go_simp; try with_reducible rfl
            try simp only [List.getElem_toArray]
            try simp only [List.getElem_cons_succ]
            try simp only [List.getElem_cons_zero]
            try simp only [Act.put]
            try simp only [List.setIfInBounds_toArray]
            try simp only [List.set]
            refine wpAnyH_take (i := 7) (v := ?v25) rfl (by kernel_rfl) (by kernel_rfl) (by kernel_rfl) (fun _ _ _ h => h) (Or.inl ⟨by kernel_rfl, ?h25⟩) hHeld ?_
            case h25 => intro u hSw; clear hSw; go_simp; try with_reducible rfl
            try simp only [List.getElem_toArray]
            try simp only [List.getElem_cons_succ]
            try simp only [List.getElem_cons_zero]
            try simp only [Act.put]
            try simp only [List.setIfInBounds_toArray]
            try simp only [List.set]
            refine wpAnyH_take (i := 8) (v := ?v26) rfl (by kernel_rfl) (by kernel_rfl) (by kernel_rfl) (fun _ _ _ h => h) (Or.inl ⟨by kernel_rfl, ?h26⟩) hHeld ?_
            case h26 => intro u hSw; clear hSw; go_simp; try with_reducible rfl
            try simp only [List.getElem_toArray]
            try simp only [List.getElem_cons_succ]
            try simp only [List.getElem_cons_zero]
            try simp only [Act.put]
            try simp only [List.setIfInBounds_toArray]
            try simp only [List.set]
            refine wpAnyH_take (i := 9) (v := ?v27) rfl (by kernel_rfl) (by kernel_rfl) (by kernel_rfl) (fun _ _ _ h => h) (Or.inl ⟨by kernel_rfl, ?h27⟩) hHeld ?_
            case h27 => intro u hSw; clear hSw; go_simp; try with_reducible rfl
            try simp only [List.getElem_toArray]
            try simp only [List.getElem_cons_succ]
            try simp only [List.getElem_cons_zero]
            try simp only [Act.put]
            try simp only [List.setIfInBounds_toArray]
            try simp only [List.set]
            refine wpAnyH_take (i := 10) (v := ?v28) rfl (by kernel_rfl) (by kernel_rfl) (by kernel_rfl) (fun _ _ _ h => h) (Or.inl ⟨by kernel_rfl, ?h28⟩) hHeld ?_
            case h28 => intro u hSw; clear hSw; go_simp; try with_reducible rfl
            try simp only [List.getElem_toArray]
            try simp only [List.getElem_cons_succ]
            try simp only [List.getElem_cons_zero]
            try simp only [Act.put]
            try simp only [List.setIfInBounds_toArray]
            try simp only [List.set]
            refine wpAnyH_take (i := 11) (v := ?v29) rfl (by kernel_rfl) (by kernel_rfl) (by kernel_rfl) (fun _ _ _ h => h) (Or.inl ⟨by kernel_rfl, ?h29⟩) hHeld ?_
            case h29 => intro u hSw; clear hSw; go_simp; try with_reducible rfl
            try simp only [List.getElem_toArray]
            try simp only [List.getElem_cons_succ]
            try simp only [List.getElem_cons_zero]
            try simp only [Act.put]
            try simp only [List.setIfInBounds_toArray]
            try simp only [List.set]
            refine wpAnyH_take (i := 12) (v := ?v30) rfl (by kernel_rfl) (by kernel_rfl) (by kernel_rfl) (fun _ _ _ h => h) (Or.inl ⟨by kernel_rfl, ?h30⟩) hHeld ?_
            case h30 => intro u hSw; (have p0 := (hSw.cell (p := ⟨b, off + i * 4, none⟩) lt).trans p0); clear hSw; go_simp; try with_reducible rfl
            try simp only [List.getElem_toArray]
            try simp only [List.getElem_cons_succ]
            try simp only [List.getElem_cons_zero]
            try simp only [Act.put]
            try simp only [List.setIfInBounds_toArray]
            try simp only [List.set]
            refine wpAnyH_take (i := 13) (v := .bool true) rfl (by kernel_rfl) (by kernel_rfl) (by kernel_rfl) (fun _ _ _ h => h) (Or.inl ⟨by kernel_rfl, ?hv3⟩) hHeld ?_
            case hv3 =>
              intro u hSw
              clear hSw hHeld
              go_simp
              try omega
            try simp only [List.getElem_toArray]
            try simp only [List.getElem_cons_succ]
            try simp only [List.getElem_cons_zero]
            try simp only [Act.put]
            try simp only [List.setIfInBounds_toArray]
            try simp only [List.set]
            refine wpAnyH_take (i := 14) (v := ?v31) rfl (by kernel_rfl) (by kernel_rfl) (by kernel_rfl) (fun _ _ _ h => h) (Or.inl ⟨by kernel_rfl, ?h31⟩) hHeld ?_
            case h31 => intro u hSw; clear hSw; go_simp; try with_reducible rfl
            try simp only [List.getElem_toArray]
            try simp only [List.getElem_cons_succ]
            try simp only [List.getElem_cons_zero]
            try simp only [Act.put]
            try simp only [List.setIfInBounds_toArray]
            try simp only [List.set]
            refine wpAnyH_done (by kernel_rfl) ?_ _
            go_wp2_with fail
            go_meet
            case rel => exact ⟨rfl, hHeld⟩
          · have hb : bb = false := by rw [← hbb]; simp [hle]
            subst hb
            clear hbb HPv h0 HC0 hi
            refine wp_region_held_drew (S := fun V => Below wr.heap.size wr V) (by kernel_rfl) (Below.refl _ wr).drew (fun hHeld => ?_)
            generalize wr.drew = D0 at hHeld ⊢
            refine wpAnyH_take (i := 0) (v := ?v32) rfl (by kernel_rfl) (by kernel_rfl) (by kernel_rfl) (fun _ _ _ h => h) (Or.inl ⟨by kernel_rfl, ?h32⟩) hHeld ?_
            case h32 => intro u hSw; clear hSw; go_simp; try with_reducible rfl
            try simp only [List.getElem_toArray]
            try simp only [List.getElem_cons_succ]
            try simp only [List.getElem_cons_zero]
            try simp only [Act.put]
            try simp only [List.setIfInBounds_toArray]
            try simp only [List.set]
            refine wpAnyH_take (i := 1) (v := .bool true) rfl (by kernel_rfl) (by kernel_rfl) (by kernel_rfl) (fun _ _ _ h => h) (Or.inl ⟨by kernel_rfl, ?hv4⟩) hHeld ?_
            case hv4 =>
              intro u hSw
              clear hSw hHeld
              go_simp
              try omega
            try simp only [List.getElem_toArray]
            try simp only [List.getElem_cons_succ]
            try simp only [List.getElem_cons_zero]
            try simp only [Act.put]
            try simp only [List.setIfInBounds_toArray]
            try simp only [List.set]
            refine wpAnyH_take (i := 2) (v := ?v33) rfl (by kernel_rfl) (by kernel_rfl) (by kernel_rfl) (fun _ _ _ h => h) (Or.inl ⟨by kernel_rfl, ?h33⟩) hHeld ?_
            case h33 => intro u hSw; clear hSw; go_simp; try with_reducible rfl
            try simp only [List.getElem_toArray]
            try simp only [List.getElem_cons_succ]
            try simp only [List.getElem_cons_zero]
            try simp only [Act.put]
            try simp only [List.setIfInBounds_toArray]
            try simp only [List.set]
            refine wpAnyH_take (i := 3) (v := ?v34) rfl (by kernel_rfl) (by kernel_rfl) (by kernel_rfl) (fun _ _ _ h => h) (Or.inl ⟨by kernel_rfl, ?h34⟩) hHeld ?_
            case h34 => intro u hSw; clear hSw; go_simp; try with_reducible rfl
            try simp only [List.getElem_toArray]
            try simp only [List.getElem_cons_succ]
            try simp only [List.getElem_cons_zero]
            try simp only [Act.put]
            try simp only [List.setIfInBounds_toArray]
            try simp only [List.set]
            refine wpAnyH_take (i := 4) (v := ?v35) rfl (by kernel_rfl) (by kernel_rfl) (by kernel_rfl) (fun _ _ _ h => h) (Or.inl ⟨by kernel_rfl, ?h35⟩) hHeld ?_
            case h35 => intro u hSw; clear hSw; go_simp; try with_reducible rfl
            try simp only [List.getElem_toArray]
            try simp only [List.getElem_cons_succ]
            try simp only [List.getElem_cons_zero]
            try simp only [Act.put]
            try simp only [List.setIfInBounds_toArray]
            try simp only [List.set]
            refine wpAnyH_take (i := 5) (v := ?v36) rfl (by kernel_rfl) (by kernel_rfl) (by kernel_rfl) (fun _ _ _ h => h) (Or.inl ⟨by kernel_rfl, ?h36⟩) hHeld ?_
            case h36 => intro u hSw; clear hSw; go_simp; try with_reducible rfl
            try simp only [List.getElem_toArray]
            try simp only [List.getElem_cons_succ]
            try simp only [List.getElem_cons_zero]
            try simp only [Act.put]
            try simp only [List.setIfInBounds_toArray]
            try simp only [List.set]
            refine wpAnyH_take (i := 6) (v := ?v37) rfl (by kernel_rfl) (by kernel_rfl) (by kernel_rfl) (fun _ _ _ h => h) (Or.inl ⟨by kernel_rfl, ?h37⟩) hHeld ?_
            case h37 => intro u hSw; (have c0 := (hSw.cell (p := ⟨b, off + j * 4, none⟩) lt).trans c0); clear hSw; go_simp; try with_reducible rfl
            try simp only [List.getElem_toArray]
            try simp only [List.getElem_cons_succ]
            try simp only [List.getElem_cons_zero]
            try simp only [Act.put]
            try simp only [List.setIfInBounds_toArray]
            try simp only [List.set]
            refine wpAnyH_take (i := 7) (v := ?v38) rfl (by kernel_rfl) (by kernel_rfl) (by kernel_rfl) (fun _ _ _ h => h) (Or.inl ⟨by kernel_rfl, ?h38⟩) hHeld ?_
            case h38 => intro u hSw; clear hSw; go_simp; try with_reducible rfl
            try simp only [List.getElem_toArray]
            try simp only [List.getElem_cons_succ]
            try simp only [List.getElem_cons_zero]
            try simp only [Act.put]
            try simp only [List.setIfInBounds_toArray]
            try simp only [List.set]
            refine wpAnyH_take (i := 8) (v := ?v39) rfl (by kernel_rfl) (by kernel_rfl) (by kernel_rfl) (fun _ _ _ h => h) (Or.inl ⟨by kernel_rfl, ?h39⟩) hHeld ?_
            case h39 => intro u hSw; clear hSw; go_simp; try with_reducible rfl
            try simp only [List.getElem_toArray]
            try simp only [List.getElem_cons_succ]
            try simp only [List.getElem_cons_zero]
            try simp only [Act.put]
            try simp only [List.setIfInBounds_toArray]
            try simp only [List.set]
            refine wpAnyH_take (i := 9) (v := ?v40) rfl (by kernel_rfl) (by kernel_rfl) (by kernel_rfl) (fun _ _ _ h => h) (Or.inl ⟨by kernel_rfl, ?h40⟩) hHeld ?_
            case h40 => intro u hSw; clear hSw; go_simp; try with_reducible rfl
            try simp only [List.getElem_toArray]
            try simp only [List.getElem_cons_succ]
            try simp only [List.getElem_cons_zero]
            try simp only [Act.put]
            try simp only [List.setIfInBounds_toArray]
            try simp only [List.set]
            refine wpAnyH_take (i := 10) (v := ?v41) rfl (by kernel_rfl) (by kernel_rfl) (by kernel_rfl) (fun _ _ _ h => h) (Or.inl ⟨by kernel_rfl, ?h41⟩) hHeld ?_
            case h41 => intro u hSw; clear hSw; go_simp; try with_reducible rfl
            try simp only [List.getElem_toArray]
            try simp only [List.getElem_cons_succ]
            try simp only [List.getElem_cons_zero]
            try simp only [Act.put]
            try simp only [List.setIfInBounds_toArray]
            try simp only [List.set]
            refine wpAnyH_take (i := 11) (v := ?v42) rfl (by kernel_rfl) (by kernel_rfl) (by kernel_rfl) (fun _ _ _ h => h) (Or.inl ⟨by kernel_rfl, ?h42⟩) hHeld ?_
            case h42 => intro u hSw; clear hSw; go_simp; try with_reducible rfl
            try simp only [List.getElem_toArray]
            try simp only [List.getElem_cons_succ]
            try simp only [List.getElem_cons_zero]
            try simp only [Act.put]
            try simp only [List.setIfInBounds_toArray]
            try simp only [List.set]
            refine wpAnyH_take (i := 12) (v := ?v43) rfl (by kernel_rfl) (by kernel_rfl) (by kernel_rfl) (fun _ _ _ h => h) (Or.inl ⟨by kernel_rfl, ?h43⟩) hHeld ?_
            case h43 => intro u hSw; (have p0 := (hSw.cell (p := ⟨b, off + i * 4, none⟩) lt).trans p0); clear hSw; go_simp; try with_reducible rfl
            try simp only [List.getElem_toArray]
            try simp only [List.getElem_cons_succ]
            try simp only [List.getElem_cons_zero]
            try simp only [Act.put]
            try simp only [List.setIfInBounds_toArray]
            try simp only [List.set]
            refine wpAnyH_take (i := 13) (v := .bool false) rfl (by kernel_rfl) (by kernel_rfl) (by kernel_rfl) (fun _ _ _ h => h) (Or.inl ⟨by kernel_rfl, ?hv5⟩) hHeld ?_
            case hv5 =>
              intro u hSw
              clear hSw hHeld
              go_simp
              try omega
            try simp only [List.getElem_toArray]
            try simp only [List.getElem_cons_succ]
            try simp only [List.getElem_cons_zero]
            try simp only [Act.put]
            try simp only [List.setIfInBounds_toArray]
            try simp only [List.set]
            refine wpAnyH_take (i := 14) (v := ?v44) rfl (by kernel_rfl) (by kernel_rfl) (by kernel_rfl) (fun _ _ _ h => h) (Or.inl ⟨by kernel_rfl, ?h44⟩) hHeld ?_
            case h44 => intro u hSw; clear hSw; go_simp; try with_reducible rfl
            try simp only [List.getElem_toArray]
            try simp only [List.getElem_cons_succ]
            try simp only [List.getElem_cons_zero]
            try simp only [Act.put]
            try simp only [List.setIfInBounds_toArray]
            try simp only [List.set]
            refine wpAnyH_done (by kernel_rfl) ?_ _
            go_wp2_with fail
            go_meet
            case rel => exact ⟨rfl, hHeld⟩
      case rest =>
        obtain ⟨rfl, gH⟩ := hcut
        have g := g.trans (gH.mono g.size)
        clear HPv HC0
        cases bb
        · have HE3 : Hid (tq = aq) := by
            have h := HE2.out
            rw [if_neg (by simpa using hbb)] at h
            exact h
          clear HE2 hbb
          have hun := HUn.out wc gH
          go_wp2_with fail
          refine hun.mono ?_
          rintro e w1 ⟨rfl, g1⟩
          have gH := gH.trans (g1.mono gH.size)
          have g := g.trans (g1.mono g.size)
          clear hun g1 HUn
          by_cases h0 : uq = 0
          · have HE4 : Hid (tq = mq) := by show _ = _; rw [HE3.out, HAl.out, if_pos h0]
            subst h0
            clear HE3 HAl
            have hmk := HMk.out w1 gH
            go_wp2_with fail
            refine hmk.mono ?_
            rintro e w2 ⟨rfl, g2⟩
            have g := g.trans (g2.mono g.size)
            clear hmk g2 HMk gH
            by_cases h1 : mq = 0
            · have HA3 : Hid (∀ i, i < j + 1 → txAt xs i = 0) := HA2.out (by rw [HE4.out]; exact h1)
              subst h1
              clear HE4 HXq HA2
              go_wp2_with fail
              go_roundw
              case rel => exact ⟨j + 1, by omega, by go_num, HA3, g⟩
              case measure => simp [intOf]; omega
            · have d1 : (mq != 0) = true := by simpa using h1
              have HX : Hid (Q = mq) := by
                have h := HXq.out (by rw [HE4.out]; exact h1)
                rw [HE4.out] at h
                exact h
              clear HE4 HXq HA2 h1
              go_wp2_with fail
              go_ret
              exact ⟨by rw [HX.out]; rfl, g⟩
          · have d0 : (uq != 0) = true := by simpa using h0
            have HX : Hid (Q = uq) := by
              have h2 : tq = uq := by rw [HE3.out, HAl.out, if_neg h0]
              have h := HXq.out (by rw [h2]; exact h0)
              rw [h2] at h
              exact h
            clear HE3 HAl HXq HA2 HMk h0 gH
            go_wp2_with fail
            go_ret
            exact ⟨by rw [HX.out]; rfl, g⟩
        · have HX : Hid (Q = 1) := by
            have h := HE2.out
            rw [if_pos (by simpa using hbb)] at h
            have h2 := HXq.out (by rw [h]; decide)
            rw [h] at h2
            exact h2
          clear HE2 hbb HXq HA2 HMk HUn HAl gH
          go_wp2_with fail
          go_ret
          exact ⟨by rw [HX.out]; rfl, g⟩
    · have e : j = n := by omega
      subst e
      have HQ3 : Hid ((if apB xs = true then (if 12 < cntU xs then 2 else 0) else 7) = Q) := by
        have h := HQ2.out
        rw [if_pos (by rw [HN.out]; exact rng_all hA.out)] at h
        exact h
      have hap := HAp.out wr g
      clear hA HQ2
      generalize apB xs = ap at hap HQ3
      go_wp2_with fail
      refine hap.mono ?_
      rintro e w1 ⟨rfl, g1⟩
      have g := g.trans (g1.mono g.size)
      clear hap g1
      cases ap
      · have HX : Hid (Q = 7) := by show _ = _; rw [← HQ3.out]; simp
        clear HQ3
        go_wp2_with fail
        go_ret
        exact ⟨by rw [HX.out]; rfl, g⟩
      have hct := HCt.out hn4 w1 g
      have HQ4 : Hid ((if 12 < cntU xs then 2 else 0) = Q) := by have h := HQ3.out; show _ = _; simpa using h
      clear HQ3
      generalize cntU xs = ct at hct HQ4
      go_wp2_with fail
      refine hct.mono ?_
      rintro e w2 ⟨rfl, hw⟩
      subst w2
      clear hct
      by_cases h12 : 12 < ct
      · have d12 : (12 : Int) < (ct : Int) := by omega
        have HX : Hid (Q = 2) := by show _ = _; rw [← HQ4.out, if_pos h12]
        clear HQ4
        go_wp2_with fail
        go_ret
        exact ⟨by rw [HX.out]; rfl, g⟩
      · have d12 : ¬ (12 : Int) < (ct : Int) := by omega
        have HX : Hid (Q = 0) := by show _ = _; rw [← HQ4.out, if_neg h12]
        clear HQ4
        go_wp2_with fail
        go_ret
        exact ⟨by rw [HX.out]; rfl, g⟩

end Go.Proofs.YtpjlpnaamkbicaaGreatDoor
