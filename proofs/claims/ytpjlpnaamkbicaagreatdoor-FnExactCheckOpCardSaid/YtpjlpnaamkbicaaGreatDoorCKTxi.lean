/-
  Transactions together: how many changes, who locks a key; both sides.
-/
import Derived.Test.YtpjlpnaamkbicaaGreatDoorCKTxd

namespace Go.Proofs.YtpjlpnaamkbicaaGreatDoor
open Go.RowKit Go.Maps
set_option linter.unusedVariables false
set_option maxRecDepth 20000

def cntU (xs : List TxV) : Nat := (xs.map fun x => x.u.length).sum
def lkr : List TxV → K2 → Int
  | [], _ => 0
  | x :: xs, k => if hasK x.l k = true then x.id else lkr xs k
theorem lkr_none : ∀ {xs : List TxV} {k : K2}, (∀ x ∈ xs, hasK x.l k = false) → lkr xs k = 0
  | [], _, _ => rfl
  | x :: xs, k, h => by
    unfold lkr
    rw [if_neg (by rw [h x (by simp)]; simp)]
    exact lkr_none (fun y hy => h y (by simp [hy]))
theorem lkr_at : ∀ {xs : List TxV} {k : K2} {j : Nat} {x : TxV}, (∀ y ∈ xs.take j, hasK y.l k = false) → xs[j]? = some x → hasK x.l k = true → lkr xs k = x.id
  | [], _, j, x, _, hx, _ => by simp at hx
  | c :: cs, k, 0, x, _, hx, hq => by
    simp at hx
    subst hx
    unfold lkr
    rw [if_pos hq]
  | c :: cs, k, j + 1, x, h, hx, hq => by
    unfold lkr
    rw [if_neg (by rw [h c (by simp)]; simp)]
    exact lkr_at (j := j) (fun y hy => h y (by simp [hy])) (by simpa using hx) hq
theorem cnt_step {xs : List TxV} {j : Nat} {x : TxV} (h : xs[j]? = some x) : cntU (xs.take (j + 1)) = cntU (xs.take j) + x.u.length := by
  unfold cntU
  rw [take_snoc h]
  simp
theorem cnt_le {xs : List TxV} {m : Nat} (h : ∀ x ∈ xs, x.u.length ≤ m) : cntU xs ≤ xs.length * m := by
  induction xs with
  | nil => simp [cntU]
  | cons a l ih =>
    have h1 := ih (fun y hy => h y (by simp [hy]))
    have h2 := h a (by simp)
    unfold cntU at h1 ⊢
    simp only [List.map_cons, List.sum_cons, List.length_cons]
    rw [Nat.succ_mul]
    omega

set_option maxHeartbeats 2000000 in
theorem l10Count_any (a : Option Addr) (xs : List TxV) (n c : Nat) (w : World) (hn : xs.length = n) (hm : n ≤ 4) (hs : ∀ x ∈ xs, TxOk 1048576 x) (hr : TxRd w a xs) :
    Calls Tryz.prog 44 #[.slice a n c] w fun e w' => e = .returned (.int .i64 (cntU xs)) ∧ w' = w := by
  have HN : Hid (xs.length = n) := hn
  have HR : Hid (TxRd w a xs) := hr
  have HS : Hid (∀ x ∈ xs, TxOk 1048576 x) := hs
  clear hn hr hs
  go_enter Tryz.func44, Tryz.ntmps44
  go_wp2_with fail
  go_loopw [4, 3] (fun i s wr => ∃ j : Nat, j ≤ n ∧ i = .int .i64 j ∧ s = .int .i64 (cntU (xs.take j)) ∧ wr = w) (fun i _ _ => n - (intOf i).toNat)
  case atStart => exact ⟨0, Nat.zero_le _, rfl, rfl, rfl⟩
  case round =>
    obtain ⟨j, hj, rfl, rfl, rfl⟩ := hrel
    by_cases hlt : j < n
    · have hjn : (j : Int) < (n : Int) := by omega
      obtain ⟨x, hx⟩ := at_ltT (xs := xs) (i := j) (by rw [HN.out]; exact hlt)
      obtain ⟨b, off, ua, ma, la, uc, mc, lc, rfl, Z⟩ := HR.out.at hx
      have hok := HS.out x (List.mem_of_getElem? hx)
      have HC : Hid (cntU (xs.take (j + 1)) = cntU (xs.take j) + x.u.length) := cnt_step hx
      have hb : cntU (xs.take j) ≤ 4 * 1048576 := by
        have h1 := cnt_le (xs := xs.take j) (m := 1048576) (fun y hy => (HS.out y (List.mem_of_mem_take hy)).1)
        have h2 : (xs.take j).length ≤ 4 := by rw [List.length_take]; omega
        exact Nat.le_trans h1 (Nat.mul_le_mul_right 1048576 h2)
      clear hx
      obtain ⟨id, us, ms, ls⟩ := x
      obtain ⟨c0, c1, c2, c3, -, -, -⟩ := Z
      have hu := hok.1
      dsimp only at c0 c1 c2 c3 HC hu
      clear hok
      generalize cntU (xs.take j) = s at HC hb ⊢
      generalize us.length = un at HC hu c1
      go_wp2_with fail
      go_roundw
      case rel => exact ⟨j + 1, by omega, by go_num, by rw [HC.out]; go_num, trivial⟩
      case measure => simp [intOf]; omega
    · have e : j = n := by omega
      subst e
      have HC : Hid (cntU (xs.take j) = cntU xs) := by show _ = _; rw [List.take_of_length_le (by rw [HN.out]; exact Nat.le_refl _)]
      go_wp2_with fail
      go_ret
      exact ⟨by rw [← HC.out]; rfl, rfl⟩

set_option maxHeartbeats 2000000 in
theorem turnedBy_any (a : Option Addr) (xs : List TxV) (n c : Nat) (w : World) (hn : xs.length = n) (hm : n ≤ 4) (hs : ∀ x ∈ xs, TxOk 1048576 x) (hr : TxRd w a xs) :
    Calls Tryz.prog 90 #[.slice a n c] w fun e w' => e = .returned (.int .i64 (cntU xs)) ∧ Below w.heap.size w w' := by
  have HN : Hid (xs.length = n) := hn
  have HR : Hid (∀ V, Below w.heap.size w V → TxRd V a xs) := fun V hV => hr.below hV (Nat.le_refl _)
  have HS : Hid (∀ x ∈ xs, TxOk 1048576 x) := hs
  clear hn hr hs
  go_enter Tryz.func90, Tryz.ntmps90
  go_upto_region 3 with (fail)
  go_loopw [8, 3] (fun i s wr => ∃ j : Nat, j ≤ n ∧ i = .int .i64 j ∧ s = .int .i64 (cntU (xs.take j)) ∧ Below w.heap.size w wr) (fun i _ _ => n - (intOf i).toNat)
  case atStart => exact ⟨0, Nat.zero_le _, rfl, rfl, Below.refl _ _⟩
  case round =>
    obtain ⟨j, hj, rfl, rfl, g⟩ := hrel
    by_cases hlt : j < n
    · have hjn : (j : Int) < (n : Int) := by omega
      obtain ⟨x, hx⟩ := at_ltT (xs := xs) (i := j) (by rw [HN.out]; exact hlt)
      obtain ⟨b, off, ua, ma, la, uc, mc, lc, rfl, Z⟩ := (HR.out wr g).at hx
      have hok := HS.out x (List.mem_of_getElem? hx)
      have HC : Hid (cntU (xs.take (j + 1)) = cntU (xs.take j) + x.u.length) := cnt_step hx
      have hb : cntU (xs.take j) ≤ 4 * 1048576 := by
        have h1 := cnt_le (xs := xs.take j) (m := 1048576) (fun y hy => (HS.out y (List.mem_of_mem_take hy)).1)
        have h2 : (xs.take j).length ≤ 4 := by rw [List.length_take]; omega
        exact Nat.le_trans h1 (Nat.mul_le_mul_right 1048576 h2)
      clear hx
      obtain ⟨id, us, ms, ls⟩ := x
      obtain ⟨c0, c1, c2, c3, -, -, -⟩ := Z
      have hu := hok.1
      dsimp only at c0 c1 c2 c3 HC hu
      clear hok
      generalize cntU (xs.take j) = s at HC hb ⊢
      generalize us.length = un at HC hu c1
      generalize ms.length = mn at c2
      generalize ls.length = ln at c3
      go_upto_region 5 with (fail)
      generalize hY : World.alloc _ _ = Y7
      have g7 : Below wr.heap.size wr Y7 := by rw [← hY]; go_grown
      have z1 : Y7.cell? ⟨wr.heap.size, 1, none⟩ = some (.slice ua un uc) := by rw [← hY]; simp [go_sem]
      have g := g.trans (g7.mono g.size)
      clear hY c0 c1 c2 c3 g7
      generalize wr.heap.size = tb at z1 ⊢
      go_wp2_with fail
      go_roundw
      case rel => exact ⟨j + 1, by omega, by go_num, by rw [HC.out]; go_num, g⟩
      case measure => simp [intOf]; omega
    · have e : j = n := by omega
      subst e
      have HC : Hid (cntU (xs.take j) = cntU xs) := by show _ = _; rw [List.take_of_length_le (by rw [HN.out]; exact Nat.le_refl _)]
      go_wp2_with fail
      go_ret
      exact ⟨by rw [← HC.out]; rfl, g⟩

set_option maxHeartbeats 4000000 in
theorem l10Lock_any (a : Option Addr) (xs : List TxV) (n c : Nat) (x y : Int) (w : World) (hn : xs.length = n) (hm : n ≤ 1048576) (hs : ∀ x ∈ xs, TxOk 1048576 x) (hr : TxRd w a xs) :
    Calls Tryz.prog 78 #[.slice a n c, .agg #[.int .i64 x, .int .i64 y]] w fun e w' => e = .returned (.int .i64 (lkr xs ⟨x, y⟩)) ∧ Below w.heap.size w w' := by
  have HN : Hid (xs.length = n) := hn
  have HR : Hid (∀ V, Below w.heap.size w V → TxRd V a xs) := fun V hV => hr.below hV (Nat.le_refl _)
  have HS : Hid (∀ x ∈ xs, TxOk 1048576 x) := hs
  obtain ⟨Q, hQ⟩ : ∃ Q, lkr xs ⟨x, y⟩ = Q := ⟨_, rfl⟩
  have HQ : Hid (lkr xs ⟨x, y⟩ = Q) := hQ
  rw [hQ]
  clear hn hr hs hQ
  go_enter Tryz.func78, Tryz.ntmps78
  go_upto_region 1 with (fail)
  generalize hY : World.alloc _ _ = Y
  have gY : Below w.heap.size w Y := by rw [← hY]; go_grown
  have k0 : Y.cell? ⟨w.heap.size, 0, none⟩ = some (.int .i64 x) := by rw [← hY]; simp [go_sem]
  have k1 : Y.cell? ⟨w.heap.size, 1, none⟩ = some (.int .i64 y) := by rw [← hY]; simp [go_sem]
  clear hY
  obtain ⟨kb, hkb⟩ : ∃ kb, w.heap.size = kb := ⟨_, rfl⟩
  rw [hkb] at k0 k1
  simp only [hkb]
  have HKB : Hid (w.heap.size = kb) := hkb
  clear hkb
  have lk : kb < Y.heap.size := World.block_lt_of_cell? Y _ k0
  have HK : Hid (∀ V, Below Y.heap.size Y V → V.cell? ⟨kb, 0, none⟩ = some (.int .i64 x) ∧ V.cell? ⟨kb, 1, none⟩ = some (.int .i64 y)) := fun V hV => ⟨(hV.cell (p := ⟨kb, 0, none⟩) lk).trans k0, (hV.cell (p := ⟨kb, 1, none⟩) lk).trans k1⟩
  clear k0 k1
  go_wp2_with fail
  go_loopw [5] (fun i wr => ∃ j : Nat, j ≤ n ∧ i = .int .i64 j ∧ Hid (∀ t ∈ xs.take j, hasK t.l ⟨x, y⟩ = false) ∧ Below Y.heap.size Y wr) (fun i _ => n - (intOf i).toNat)
  case atStart => exact ⟨0, Nat.zero_le _, rfl, by intro e he; simp at he, Below.refl _ _⟩
  case round =>
    obtain ⟨j, hj, rfl, hA, g⟩ := hrel
    by_cases hlt : j < n
    · have hjn : (j : Int) < (n : Int) := by omega
      obtain ⟨t, ht⟩ := at_ltT (xs := xs) (i := j) (by rw [HN.out]; exact hlt)
      obtain ⟨b, off, ua, ma, la, uc, mc, lc, rfl, Z⟩ := (HR.out wr (gY.trans (g.mono gY.size))).at ht
      have hok := (HS.out t (List.mem_of_getElem? ht)).2.2.2
      obtain ⟨f, hf⟩ : ∃ f, hasK t.l ⟨x, y⟩ = f := ⟨_, rfl⟩
      have HY1 : Hid (f = true → Q = t.id) := fun h => by rw [← HQ.out]; exact lkr_at hA.out ht (by rw [hf]; exact h)
      have HY0 : Hid (f = false → ∀ e ∈ xs.take (j + 1), hasK e.l ⟨x, y⟩ = false) := fun h => take_all hA.out ht (by rw [hf]; exact h)
      have HL : Hid (∀ V, Below wr.heap.size wr V → Calls Tryz.prog 75 #[.pointer (some ⟨b, off + j * 4, none⟩), .agg #[.int .i64 x, .int .i64 y]] V fun e w' => e = .returned (.bool f) ∧ Below V.heap.size V w') := fun V hV => by
        have Z' := Z.below hV
        have h := l10Locks_any b (off + j * 4) la t.l t.l.length lc x y V rfl (by omega) Z'.l Z'.c3
        rw [hf] at h
        exact h
      have HZ : Hid (∀ V, Below wr.heap.size wr V → V.cell? ⟨b, off + j * 4, none⟩ = some (.int .i64 t.id)) := fun V hV => (Z.below hV).c0
      obtain ⟨k0, k1⟩ := HK.out wr g
      have lk := World.block_lt_of_cell? wr _ k0
      clear ht hf hA Z hok
      generalize t.id = tid at HY1 HZ
      go_upto_region 4 with (fail)
      refine wp_region_held_drew (S := fun V => Below wr.heap.size wr V) (by kernel_rfl) (Below.refl _ wr).drew (fun hHeld => ?_)
      generalize wr.drew = D0 at hHeld ⊢
      refine wpAnyH_take (i := 0) (v := ?v1) rfl (by kernel_rfl) (by kernel_rfl) (by kernel_rfl) (fun _ _ _ h => h) (Or.inl ⟨by kernel_rfl, ?h1⟩) hHeld ?_
      case h1 => intro u hSw; clear hSw; go_simp; try with_reducible rfl
      try simp only [List.getElem_toArray]
      try simp only [List.getElem_cons_succ]
      try simp only [List.getElem_cons_zero]
      try simp only [Act.put]
      try simp only [List.setIfInBounds_toArray]
      try simp only [List.set]
      refine wpAnyH_take (i := 1) (v := ?v2) rfl (by kernel_rfl) (by kernel_rfl) (by kernel_rfl) (fun _ _ _ h => h) (Or.inl ⟨by kernel_rfl, ?h2⟩) hHeld ?_
      case h2 => intro u hSw; clear hSw; go_simp; try with_reducible rfl
      try simp only [List.getElem_toArray]
      try simp only [List.getElem_cons_succ]
      try simp only [List.getElem_cons_zero]
      try simp only [Act.put]
      try simp only [List.setIfInBounds_toArray]
      try simp only [List.set]
      refine wpAnyH_take (i := 2) (v := ?v3) rfl (by kernel_rfl) (by kernel_rfl) (by kernel_rfl) (fun _ _ _ h => h) (Or.inl ⟨by kernel_rfl, ?h3⟩) hHeld ?_
      case h3 => intro u hSw; clear hSw; go_simp; try with_reducible rfl
      try simp only [List.getElem_toArray]
      try simp only [List.getElem_cons_succ]
      try simp only [List.getElem_cons_zero]
      try simp only [Act.put]
      try simp only [List.setIfInBounds_toArray]
      try simp only [List.set]
      refine wpAnyH_take (i := 3) (v := ?v4) rfl (by kernel_rfl) (by kernel_rfl) (by kernel_rfl) (fun _ _ _ h => h) (Or.inl ⟨by kernel_rfl, ?h4⟩) hHeld ?_
      case h4 => intro u hSw; (have k0 := (hSw.cell (p := ⟨kb, 0, none⟩) lk).trans k0); (have k1 := (hSw.cell (p := ⟨kb, 1, none⟩) lk).trans k1); clear hSw; go_simp; try with_reducible rfl
      try simp only [List.getElem_toArray]
      try simp only [List.getElem_cons_succ]
      try simp only [List.getElem_cons_zero]
      try simp only [Act.put]
      try simp only [List.setIfInBounds_toArray]
      try simp only [List.set]
      refine wpAnyH_ready (rs := [4]) (by kernel_rfl) (by simp) ?_
      refine AllReadyH.cons rfl (fun K hK => ?_) AllReadyH.nil
      go_simp
      go_wp2_with (go_at_call 75; refine (HL.out _ hHeld).mono ?_; rintro e U1 ⟨rfl, gg⟩)
      refine hK.out _ _ (hHeld.trans (gg.mono hHeld.size)) (fun hHeld => ?_)
      clear hK K
      clear gg
      try simp only [Act.put]
      try simp only [List.setIfInBounds_toArray]
      try simp only [List.set]
      refine wpAnyH_done (by kernel_rfl) ?_ _
      have z0 := HZ.out _ hHeld
      have g := g.trans (hHeld.mono g.size)
      clear hHeld k0 k1 lk HL HZ
      cases f
      · have HA2 : Hid (∀ e ∈ xs.take (j + 1), hasK e.l ⟨x, y⟩ = false) := HY0.out rfl
        clear HY0 HY1 z0
        go_wp2_with fail
        go_roundw
        case rel => exact ⟨j + 1, by omega, by go_num, HA2, g⟩
        case measure => simp [intOf]; omega
      · have HA2 : Hid (Q = tid) := HY1.out rfl
        clear HY0 HY1
        go_wp2_with fail
        go_ret
        exact ⟨by rw [HA2.out]; rfl, gY.trans (g.mono gY.size)⟩
    · have e : j = n := by omega
      subst e
      have HA2 : Hid (Q = 0) := by show _ = _; rw [← HQ.out]; exact lkr_none (take_whole HN.out hA.out)
      clear hA
      go_wp2_with fail
      go_ret
      exact ⟨by rw [HA2.out]; rfl, gY.trans (g.mono gY.size)⟩

end Go.Proofs.YtpjlpnaamkbicaaGreatDoor
