/-
  slices.IndexFunc over transactions; placeOfTx.
-/
import Derived.Test.YtpjlpnaamkbicaaGreatDoorCKTxd

namespace Go.Proofs.YtpjlpnaamkbicaaGreatDoor
open Go.RowKit
set_option linter.unusedVariables false

/-- The place of the first transaction whose number is so; -1 where none is. -/
def ixT (p : Int → Bool) : List TxV → Int
  | [] => -1
  | x :: xs => if p x.id = true then 0 else if ixT p xs < 0 then -1 else ixT p xs + 1
theorem ixT_no {p : Int → Bool} : ∀ {xs : List TxV}, (∀ y ∈ xs, p y.id = false) → ixT p xs = -1
  | [], _ => rfl
  | x :: xs, h => by
    have h1 := ixT_no (p := p) (xs := xs) (fun y hy => h y (List.mem_cons_of_mem _ hy))
    unfold ixT
    rw [if_neg (by rw [h x (List.mem_cons_self ..)]; decide), h1, if_pos (by decide)]
theorem ixT_yes {p : Int → Bool} : ∀ (xs : List TxV) (j : Nat) (x : TxV), xs[j]? = some x → p x.id = true → (∀ y ∈ xs.take j, p y.id = false) → ixT p xs = (j : Int)
  | [], j, x, h, _, _ => by simp at h
  | y :: xs, 0, x, h, hp, _ => by
    simp at h
    subst h
    unfold ixT
    rw [if_pos hp]
    rfl
  | y :: xs, j + 1, x, h, hp, ha => by
    have h1 := ixT_yes xs j x (by simpa using h) hp (fun z hz => ha z (by rw [List.take_succ_cons]; exact List.mem_cons_of_mem _ hz))
    unfold ixT
    rw [if_neg (by rw [ha y (by rw [List.take_succ_cons]; exact List.mem_cons_self ..)]; decide), h1, if_neg (by omega)]
    omega
theorem ixT_at {p : Int → Bool} : ∀ {xs : List TxV}, 0 ≤ ixT p xs → ∃ (j : Nat) (x : TxV), xs[j]? = some x ∧ ixT p xs = (j : Int) ∧ p x.id = true
  | [], h => by unfold ixT at h; omega
  | y :: xs, h => by
    unfold ixT at h ⊢
    split
    · rename_i hp
      exact ⟨0, y, rfl, rfl, hp⟩
    · rename_i hp
      rw [if_neg hp] at h
      split
      · rename_i h0
        rw [if_pos h0] at h
        omega
      · rename_i h0
        obtain ⟨j, x, h1, h2, h3⟩ := ixT_at (p := p) (xs := xs) (by omega)
        exact ⟨j + 1, x, by simpa using h1, by rw [h2]; omega, h3⟩
theorem ixT_neg {p : Int → Bool} : ∀ {xs : List TxV}, ixT p xs < 0 → ∀ y ∈ xs, p y.id = false
  | [], _, y, hy => by simp at hy
  | x :: xs, h, y, hy => by
    unfold ixT at h
    split at h
    · omega
    · rename_i hp
      split at h
      · rename_i h0
        rcases List.mem_cons.1 hy with rfl | hy
        · simpa using hp
        · exact ixT_neg h0 y hy
      · omega
theorem ixT_ge (p : Int → Bool) (xs : List TxV) : -1 ≤ ixT p xs := by
  by_cases h : 0 ≤ ixT p xs
  · omega
  · have h1 := ixT_neg (p := p) (xs := xs) (by omega)
    rw [ixT_no h1]
    omega

set_option maxHeartbeats 400000 in
theorem placeOfTx1_any (id : Int) (ua : Option Addr) (un uc : Nat) (ma : Option Addr) (mn mc : Nat) (la : Option Addr) (ln lc : Nat) (tb : Nat) (t : Int) (w : World) (ht : w.cell? ⟨tb, 0, none⟩ = some (.int .i64 t)) :
    Calls Tryz.prog 60 #[.agg #[.int .i64 id, .slice ua un uc, .slice ma mn mc, .slice la ln lc], .pointer (some ⟨tb, 0, none⟩)] w fun e w' => e = .returned (.bool ((fun i : Int => decide (i = t)) id)) ∧ Below w.heap.size w w' := by
  go_enter Tryz.func60, Tryz.ntmps60
  have hlt := World.block_lt_of_cell? w _ ht
  go_wp2_with fail
  go_ret
  exact ⟨rfl, by go_grown⟩

set_option maxRecDepth 20000 in
set_option maxHeartbeats 4000000 in
theorem placeOfTxIndex_any (a : Option Addr) (xs : List TxV) (n c tb : Nat) (t : Int) (w : World) (hn : xs.length = n) (hm : n ≤ 1048576) (hr : TxRd w a xs) (ht : w.cell? ⟨tb, 0, none⟩ = some (.int .i64 t)) :
    Calls Tryz.prog 59 #[.slice a n c, .func (.func 60) #[] #[.pointer (some ⟨tb, 0, none⟩)]] w fun e w' => e = .returned (.int .i64 (ixT ((fun i : Int => decide (i = t))) xs)) ∧ Below w.heap.size w w' := by
  have HN : Hid (xs.length = n) := hn
  have HR : Hid (∀ W, Below w.heap.size w W → TxRd W a xs) := fun W hW => hr.below hW (Nat.le_refl _)
  have HT : Hid (∀ W, Below w.heap.size w W → W.cell? ⟨tb, 0, none⟩ = some (.int .i64 t)) := fun W hW => (hW.cell (p := ⟨tb, 0, none⟩) (World.block_lt_of_cell? w _ ht)).trans ht
  clear hn hr ht
  go_enter Tryz.func59, Tryz.ntmps59
  go_wp2_with fail
  go_loopw [8] (fun i wr => ∃ j : Nat, j ≤ n ∧ i = .int .i64 j ∧ Below w.heap.size w wr ∧ Hid (∀ x ∈ xs.take j, ((fun i : Int => decide (i = t)) x.id) = false)) (fun i _ => n - (intOf i).toNat)
  case atStart => exact ⟨0, Nat.zero_le _, rfl, Below.refl _ _, by intro x hx; simp at hx⟩
  case round =>
    obtain ⟨j, hj, rfl, gr, hA⟩ := hrel
    by_cases hlt : j < n
    · obtain ⟨x, hx⟩ := at_ltT (xs := xs) (i := j) (by rw [HN.out]; exact hlt)
      obtain ⟨b, off, ua, ma, la, uc, mc, lc, e0, Z⟩ := (HR.out wr gr).at hx
      obtain rfl := e0
      have hjn : (j : Int) < (n : Int) := by omega
      have HX : Hid (xs[j]? = some x) := hx
      obtain ⟨p, hp⟩ : ∃ p, (fun i : Int => decide (i = t)) x.id = p := ⟨_, rfl⟩
      have HP : Hid (((fun i : Int => decide (i = t)) x.id) = p) := hp
      clear hx
      obtain ⟨id, us, ms, ls⟩ := x
      obtain ⟨c0, c1, c2, c3, -, -, -⟩ := Z
      dsimp only at c0 c1 c2 c3 hp
      generalize us.length = un at c1
      generalize ms.length = mn at c2
      generalize ls.length = ln at c3
      have hcon := placeOfTx1_any id ua un uc ma mn mc la ln lc tb t wr (HT.out wr gr)
      dsimp only at hcon hp
      rw [hp] at hcon
      clear hp
      go_wp2_with fail
      refine hcon.mono ?_
      rintro e W ⟨rfl, gW⟩
      have gr := gr.trans (gW.mono gr.size)
      clear gW hcon c0 c1 c2 c3
      cases p
      · have HA2 : Hid (∀ x ∈ xs.take (j + 1), ((fun i : Int => decide (i = t)) x.id) = false) := take_all hA.out HX.out HP.out
        go_wp2_with fail
        go_roundw
        case rel => exact ⟨j + 1, by omega, by go_num, gr, HA2⟩
        case measure => simp [intOf]; omega
      · have HE : Hid (ixT ((fun i : Int => decide (i = t))) xs = (j : Int)) := ixT_yes xs j _ HX.out HP.out hA.out
        go_wp2_with fail
        go_ret
        exact ⟨by rw [HE.out]; rfl, gr⟩
    · have e : j = n := by omega
      subst e
      have HE : Hid (ixT ((fun i : Int => decide (i = t))) xs = -1) := ixT_no (take_whole HN.out hA.out)
      go_wp2_with fail
      go_ret
      exact ⟨by rw [HE.out]; rfl, gr⟩

set_option maxHeartbeats 1000000 in
theorem placeOfTx_any (a : Option Addr) (xs : List TxV) (n c : Nat) (t : Int) (w : World) (hn : xs.length = n) (hm : n ≤ 1048576) (hr : TxRd w a xs) :
    Calls Tryz.prog 29 #[.slice a n c, .int .i64 t] w fun e w' => e = .returned (.int .i64 (ixT (fun i : Int => decide (i = t)) xs)) ∧ Below w.heap.size w w' := by
  have HC : Hid (∀ V tb, Below w.heap.size w V → V.cell? ⟨tb, 0, none⟩ = some (.int .i64 t) → Calls Tryz.prog 59 #[.slice a n c, .func (.func 60) #[] #[.pointer (some ⟨tb, 0, none⟩)]] V fun e w' => e = .returned (.int .i64 (ixT (fun i : Int => decide (i = t)) xs)) ∧ Below V.heap.size V w') := fun V tb hV ht => placeOfTxIndex_any a xs n c tb t V hn hm (hr.below hV (Nat.le_refl _)) ht
  obtain ⟨Q, hQ⟩ : ∃ Q, ixT (fun i : Int => decide (i = t)) xs = Q := ⟨_, rfl⟩
  rw [hQ] at HC ⊢
  clear hn hr hQ
  go_enter Tryz.func29, Tryz.ntmps29
  go_upto_region 1 with (fail)
  generalize hY : World.alloc _ _ = Y
  have gY : Below w.heap.size w Y := by rw [← hY]; go_grown
  have k0 : Y.cell? ⟨w.heap.size, 0, none⟩ = some (.int .i64 t) := by rw [← hY]; simp [go_sem]
  clear hY
  obtain ⟨kb, hkb⟩ : ∃ kb, w.heap.size = kb := ⟨_, rfl⟩
  rw [hkb] at k0
  simp only [hkb]
  have HKB : Hid (w.heap.size = kb) := hkb
  clear hkb
  have hcon := HC.out Y kb gY k0
  go_wp2_with fail
  refine hcon.mono ?_
  rintro e w' ⟨rfl, g⟩
  go_wp2_with fail
  go_ret
  exact ⟨rfl, gY.trans (g.mono gY.size)⟩

end Go.Proofs.YtpjlpnaamkbicaaGreatDoor
