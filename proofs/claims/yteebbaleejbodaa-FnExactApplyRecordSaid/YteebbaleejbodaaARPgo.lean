/-
  Pages in memory of one's own: compared, marked, looked through.
-/
import Derived.Test.YteebbaleejbodaaARHbs
import Derived.Test.YteebbaleejbodaaARPgs

namespace Go.Proofs.Yteebbaleejbodaa
open Go.RowKit
set_option linter.unusedVariables false

/-- Block b, one of lo to below hi, holds n slices of bytes: of the i-th the bytes Z i, which stand at A i in block F i; no two share any. -/
structure OwnP (lo hi : Nat) (w : World) (b n : Nat) (A : Nat → Option Addr) (C : Nat → Nat) (Z : Nat → List Int) (F : Nat → Nat) : Prop where
  l0 : lo ≤ b
  h0 : b < hi
  c1 : ∀ i, i < n → w.cell? ⟨b, i, none⟩ = some (.slice (A i) (Z i).length (C i))
  f1 : ∀ i, i < n → w.frozen? ⟨b, i, none⟩ = false
  by' : ∀ i, i < n → BytesIn (F i) (F i + 1) w (A i) (Z i)
  fr : ∀ i, i < n → Z i ≠ [] → lo ≤ F i ∧ F i < hi ∧ F i ≠ b
  ne : ∀ i j, i < n → j < n → i ≠ j → Z i ≠ [] → Z j ≠ [] → F i ≠ F j

section
variable {lo hi b n : Nat} {w w' : World} {A : Nat → Option Addr} {C : Nat → Nat} {Z Z' : Nat → List Int} {F : Nat → Nat}
theorem OwnP.turned (h : OwnP lo hi w b n A C Z F) {x y : Nat} (ht : Turned x y w w') (hn : hi ≤ x ∨ y ≤ lo) : OwnP lo hi w' b n A C Z F := by
  have h1 := h.l0
  have h2 := h.h0
  exact ⟨h.l0, h.h0, fun i hi => ht.cell (h.c1 i hi) (by simp only; omega), fun i hi => (ht.frozen (h.c1 i hi) (by simp only; omega)).trans (h.f1 i hi),
    fun i hi => (h.by' i hi).turnedE ht (fun e => by have := h.fr i hi e; omega), h.fr, h.ne⟩
theorem OwnP.below (h : OwnP lo hi w b n A C Z F) (hb : Below w.heap.size w w') : OwnP lo hi w' b n A C Z F :=
  h.turned (x := hi) (y := hi) (Turned.ofBelow hb) (.inl (Nat.le_refl _))
theorem OwnP.mono (h : OwnP lo hi w b n A C Z F) {lo' hi' : Nat} (hl : lo' ≤ lo) (hh : hi ≤ hi') : OwnP lo' hi' w b n A C Z F :=
  ⟨Nat.le_trans hl h.l0, Nat.lt_of_lt_of_le h.h0 hh, h.c1, h.f1, h.by', fun i hi e => by have := h.fr i hi e; omega, h.ne⟩
theorem OwnP.congr (h : OwnP lo hi w b n A C Z F) (hZ : ∀ i, i < n → Z i = Z' i) : OwnP lo hi w b n A C Z' F :=
  ⟨h.l0, h.h0, fun i hi => by rw [← hZ i hi]; exact h.c1 i hi, h.f1, fun i hi => by rw [← hZ i hi]; exact h.by' i hi, fun i hi e => h.fr i hi (by rw [hZ i hi]; exact e), fun i j hi hj hn e1 e2 => h.ne i j hi hj hn (by rw [hZ i hi]; exact e1) (by rw [hZ j hj]; exact e2)⟩
theorem OwnP.setBytes (h : OwnP lo hi w b n A C Z F) {j : Nat} (hj : j < n) (hne : Z j ≠ []) (ht : Turned (F j) (F j + 1) w w') {ys : List Int} (hl : ys.length = (Z j).length) (hy : BytesIn (F j) (F j + 1) w' (A j) ys) : OwnP lo hi w' b n A C (fun i => if i = j then ys else Z i) F := by
  have hfj := h.fr j hj hne
  refine ⟨h.l0, h.h0, fun i hi => ?_, fun i hi => (ht.frozen (h.c1 i hi) (by simp only; omega)).trans (h.f1 i hi), fun i hi => ?_, fun i hi e => ?_, fun i k hi hk hn e1 e2 => ?_⟩
  · rw [ht.cell (h.c1 i hi) (by simp only; omega)]
    by_cases e : i = j
    · subst e
      simp only [if_true]
      rw [hl]
    · simp only [if_neg e]
  · by_cases e : i = j
    · subst e
      simp only [if_true]
      exact hy
    · simp only [if_neg e]
      exact (h.by' i hi).turnedE ht (fun e2 => by have := h.ne i j hi hj e e2 hne; omega)
  · by_cases e3 : i = j
    · subst e3; exact hfj
    · simp only [if_neg e3] at e; exact h.fr i hi e
  · refine h.ne i k hi hk hn ?_ ?_
    · by_cases e3 : i = j
      · subst e3; exact hne
      · simpa only [if_neg e3] using e1
    · by_cases e3 : k = j
      · subst e3; exact hne
      · simpa only [if_neg e3] using e2
end

set_option maxHeartbeats 1000000 in
theorem eqByteSS_own (x y : Nat) (n c d : Nat) (A B : Nat → Option Addr) (C D : Nat → Nat) (Z : Nat → List Int) (F G : Nat → Nat) (la ua lb ub : Nat) (w : World) (hm : n ≤ 1048576) (hz : ∀ i, i < n → (Z i).length ≤ 140737488351232) (hx : OwnP la ua w x n A C Z F) (hy : OwnP lb ub w y n B D Z G) :
    Calls Try.prog 27 #[.slice (some ⟨x, 0, none⟩) n c, .slice (some ⟨y, 0, none⟩) n d] w fun e w' => e = .returned (.bool true) ∧ Below w.heap.size w w' := by
  go_enter Try.func27, Try.ntmps27
  go_wp2_with fail
  go_loopw [5] (fun i wr => ∃ k : Nat, k ≤ n ∧ i = .int .i64 k ∧ Below w.heap.size w wr ∧ OwnP la ua wr x n A C Z F ∧ OwnP lb ub wr y n B D Z G) (fun i _ => n - (intOf i).toNat)
  case atStart => exact ⟨0, Nat.zero_le _, rfl, Below.refl _ _, hx, hy⟩
  case round =>
    clear hx hy
    obtain ⟨k, hk, rfl, g, hx, hy⟩ := hrel
    by_cases hlt : k < n
    · have hkn : (k : Int) < (n : Int) := by omega
      obtain ⟨zs, hzs⟩ : ∃ zs, zs = Z k := ⟨_, rfl⟩
      have hzl := hz k hlt
      rw [← hzs] at hzl
      have HX := fun V (hV : Below wr.heap.size wr V) => (hx.below hV)
      have HY := fun V (hV : Below wr.heap.size wr V) => (hy.below hV)
      have HS : Hid (∀ V, Below wr.heap.size wr V → V.cell? ⟨x, k, none⟩ = some (.slice (A k) zs.length (C k)) ∧ V.cell? ⟨y, k, none⟩ = some (.slice (B k) zs.length (D k))) := fun V hV => ⟨by rw [hzs]; exact (HX V hV).c1 k hlt, by rw [hzs]; exact (HY V hV).c1 k hlt⟩
      have yx : Hid (∀ V, Below wr.heap.size wr V → BytesIn (F k) (F k + 1) V (A k) zs) := fun V hV => by rw [hzs]; exact (HX V hV).by' k hlt
      have yy : Hid (∀ V, Below wr.heap.size wr V → BytesIn (G k) (G k + 1) V (B k) zs) := fun V hV => by rw [hzs]; exact (HY V hV).by' k hlt
      clear HX HY hzs
      generalize A k = ax at HS yx
      generalize C k = cx at HS
      generalize B k = ay at HS yy
      generalize D k = cy at HS
      generalize F k = fk at yx
      generalize G k = gk at yy
      go_wp2_with fail
      go_upto_region 6 with (fail)
      refine wp_region_held_drew (S := fun V => Below wr.heap.size wr V ∧ V.cell? ⟨x, k, none⟩ = some (.slice ax zs.length cx) ∧ V.cell? ⟨y, k, none⟩ = some (.slice ay zs.length cy)) (by kernel_rfl) ⟨(Below.refl _ _).drew, HS.out _ (Below.refl _ _).drew⟩ (fun hHeld => ?_)
      generalize wr.drew = D at hHeld ⊢
      refine wpAnyH_take (i := 0) (v := ?v1) rfl (by kernel_rfl) (by kernel_rfl) (by kernel_rfl) (fun _ _ _ h => h) (Or.inl ⟨by kernel_rfl, ?h1⟩) hHeld ?_
      case h1 => intro u hSw; (try dsimp only at hSw); go_simp; try with_reducible rfl
      try simp only [List.getElem_toArray]
      try simp only [List.getElem_cons_succ]
      try simp only [List.getElem_cons_zero]
      try simp only [Act.put]
      try simp only [List.setIfInBounds_toArray]
      try simp only [List.set]
      refine wpAnyH_take (i := 1) (v := ?v2) rfl (by kernel_rfl) (by kernel_rfl) (by kernel_rfl) (fun _ _ _ h => h) (Or.inl ⟨by kernel_rfl, ?h2⟩) hHeld ?_
      case h2 => intro u hSw; (try dsimp only at hSw); go_simp; try with_reducible rfl
      try simp only [List.getElem_toArray]
      try simp only [List.getElem_cons_succ]
      try simp only [List.getElem_cons_zero]
      try simp only [Act.put]
      try simp only [List.setIfInBounds_toArray]
      try simp only [List.set]
      refine wpAnyH_take (i := 4) (v := ?v3) rfl (by kernel_rfl) (by kernel_rfl) (by kernel_rfl) (fun _ _ _ h => h) (Or.inl ⟨by kernel_rfl, ?h3⟩) hHeld ?_
      case h3 => intro u hSw; (try dsimp only at hSw); go_simp; try with_reducible rfl
      try simp only [List.getElem_toArray]
      try simp only [List.getElem_cons_succ]
      try simp only [List.getElem_cons_zero]
      try simp only [Act.put]
      try simp only [List.setIfInBounds_toArray]
      try simp only [List.set]
      refine wpAnyH_take (i := 5) (v := ?v4) rfl (by kernel_rfl) (by kernel_rfl) (by kernel_rfl) (fun _ _ _ h => h) (Or.inl ⟨by kernel_rfl, ?h4⟩) hHeld ?_
      case h4 => intro u hSw; (try dsimp only at hSw); go_simp; try with_reducible rfl
      try simp only [List.getElem_toArray]
      try simp only [List.getElem_cons_succ]
      try simp only [List.getElem_cons_zero]
      try simp only [Act.put]
      try simp only [List.setIfInBounds_toArray]
      try simp only [List.set]
      refine wpAnyH_take (i := 2) (v := ?v5) rfl (by kernel_rfl) (by kernel_rfl) (by kernel_rfl) (fun _ _ _ h => h) (Or.inl ⟨by kernel_rfl, ?h5⟩) hHeld ?_
      case h5 => intro u hSw; (try dsimp only at hSw); go_simp; try with_reducible rfl
      try simp only [List.getElem_toArray]
      try simp only [List.getElem_cons_succ]
      try simp only [List.getElem_cons_zero]
      try simp only [Act.put]
      try simp only [List.setIfInBounds_toArray]
      try simp only [List.set]
      refine wpAnyH_take (i := 6) (v := ?v6) rfl (by kernel_rfl) (by kernel_rfl) (by kernel_rfl) (fun _ _ _ h => h) (Or.inl ⟨by kernel_rfl, ?h6⟩) hHeld ?_
      case h6 => intro u hSw; (try dsimp only at hSw); go_simp; try with_reducible rfl
      try simp only [List.getElem_toArray]
      try simp only [List.getElem_cons_succ]
      try simp only [List.getElem_cons_zero]
      try simp only [Act.put]
      try simp only [List.setIfInBounds_toArray]
      try simp only [List.set]
      refine wpAnyH_take (i := 3) (v := ?v7) rfl (by kernel_rfl) (by kernel_rfl) (by kernel_rfl) (fun _ _ _ h => h) (Or.inl ⟨by kernel_rfl, ?h7⟩) hHeld ?_
      case h7 => intro u hSw; have q0 := hSw.2.1; clear hSw; go_simp; try with_reducible rfl
      try simp only [List.getElem_toArray]
      try simp only [List.getElem_cons_succ]
      try simp only [List.getElem_cons_zero]
      try simp only [Act.put]
      try simp only [List.setIfInBounds_toArray]
      try simp only [List.set]
      refine wpAnyH_take (i := 7) (v := ?v8) rfl (by kernel_rfl) (by kernel_rfl) (by kernel_rfl) (fun _ _ _ h => h) (Or.inl ⟨by kernel_rfl, ?h8⟩) hHeld ?_
      case h8 => intro u hSw; have q0 := hSw.2.2; clear hSw; go_simp; try with_reducible rfl
      try simp only [List.getElem_toArray]
      try simp only [List.getElem_cons_succ]
      try simp only [List.getElem_cons_zero]
      try simp only [Act.put]
      try simp only [List.setIfInBounds_toArray]
      try simp only [List.set]
      refine wpAnyH_ready (rs := [8]) (by kernel_rfl) (by simp) ?_
      refine AllReadyH.cons rfl (fun K hK => ?_) AllReadyH.nil
      go_simp
      go_wp2_with (go_at_call 70; refine (eqByteS_same _ _ _ _ _ _ zs zs.length _ _ _ rfl hzl (yx.out _ hHeld.1) (yy.out _ hHeld.1)).mono ?_; rintro e w' ⟨rfl, m, rfl⟩)
      refine hK.out _ _ (⟨below_draws hHeld.1 m, HS.out _ (below_draws hHeld.1 m)⟩) (fun hHeld => ?_)
      clear hK K
      try simp only [Act.put]
      try simp only [List.setIfInBounds_toArray]
      try simp only [List.set]
      refine wpAnyH_take (i := 9) (v := ?v9) rfl (by kernel_rfl) (by kernel_rfl) (by kernel_rfl) (fun _ _ _ h => h) (Or.inl ⟨by kernel_rfl, ?h9⟩) hHeld ?_
      case h9 => intro u hSw; (try dsimp only at hSw); go_simp; try with_reducible rfl
      try simp only [List.getElem_toArray]
      try simp only [List.getElem_cons_succ]
      try simp only [List.getElem_cons_zero]
      try simp only [Act.put]
      try simp only [List.setIfInBounds_toArray]
      try simp only [List.set]
      refine wpAnyH_done (by kernel_rfl) ?_ _
      have gw := hHeld.1
      have g := g.trans (gw.mono g.size)
      have hx := hx.below gw
      have hy := hy.below gw
      clear hHeld HS yx yy gw
      go_wp2_with fail
      go_roundw
      case rel => exact ⟨k + 1, by omega, by go_num, g, hx, hy⟩
      case measure => simp [intOf]; omega
    · go_wp2_with fail
      go_ret
      exact ⟨rfl, g⟩

/-- The number with which the i-th page's marks begin, and its bytes then. -/
def mkP (Z : Nat → List Int) (k : Int) (i : Nat) : Int := k + took Z i
theorem mkP_succ (Z : Nat → List Int) (k : Int) (i : Nat) : mkP Z k (i + 1) = mkP Z k i + (Z i).length := by unfold mkP; simp only [took]; omega
def mZP (Z : Nat → List Int) (k : Int) (i : Nat) : List Int := marked (mkP Z k i) (Z i).length (Z i)
theorem mZP_len (Z : Nat → List Int) (k : Int) (i : Nat) : (mZP Z k i).length = (Z i).length := marked_length _ _ _ (Nat.le_refl _)

set_option maxHeartbeats 1000000 in
theorem markByteSS_own (b n c : Nat) (lo hi : Nat) (A : Nat → Option Addr) (C : Nat → Nat) (Z : Nat → List Int) (F : Nat → Nat) (k : Int) (w : World) (hm : n + took Z n ≤ 1048576) (hk0 : 0 ≤ k) (hk1 : k ≤ 10000000) (h : OwnP lo hi w b n A C Z F) :
    Calls Try.prog 28 #[.slice (some ⟨b, 0, none⟩) n c, .int .i64 k] w fun e w' => e = .returned (.int .i64 (mkP Z k n)) ∧ Turned lo hi w w' ∧ OwnP lo hi w' b n A C (mZP Z k) F := by
  have hzl : ∀ i, i < n → (Z i).length ≤ 140737488351232 := fun i hi => by have := took_one Z i n hi; omega
  have hmk : ∀ i, i ≤ n → 0 ≤ mkP Z k i ∧ mkP Z k i ≤ 20000000 := fun i hi => by have := took_mono Z i n hi; unfold mkP; omega
  go_enter Try.func28, Try.ntmps28
  go_wp2_with fail
  go_loopw [5, 1] (fun i kk wr => ∃ j : Nat, j ≤ n ∧ i = .int .i64 j ∧ kk = .int .i64 (mkP Z k j) ∧ Turned lo hi w wr ∧ OwnP lo hi wr b n A C (fun i => if i < j then mZP Z k i else Z i) F) (fun i _ _ => n - (intOf i).toNat)
  case atStart => exact ⟨0, Nat.zero_le _, rfl, by simp [mkP, took], Turned.refl _ _ _, h.congr (fun i _ => by simp)⟩
  case round =>
    obtain ⟨j, hj, rfl, rfl, ht, hO⟩ := hrel
    clear h
    by_cases hlt : j < n
    · have hjn : (j : Int) < (n : Int) := by omega
      obtain ⟨kk, hkk⟩ : ∃ kk, kk = mkP Z k j := ⟨_, rfl⟩
      have hb1 := hmk j (by omega)
      rw [← hkk] at hb1 ⊢
      have x2 := hO.c1 j hlt
      simp only [Nat.lt_irrefl, if_false] at x2
      obtain ⟨hb1, hb2⟩ := hb1
      have HK : Hid (kk = mkP Z k j) := hkk
      clear hkk
      have hbz := hO.by' j hlt
      simp only [Nat.lt_irrefl, if_false] at hbz
      by_cases hne : Z j = []
      · have hl0 : (Z j).length = 0 := by rw [hne]; rfl
        rw [hl0] at x2
        have hbz0 : BytesIn 0 0 wr (A j) [] := .inl rfl
        go_wp2_with fail
        refine (markByteS_any (A j) 0 0 [] 0 (C j) kk _ rfl (by omega) (by omega) (by omega) hbz0).mono ?_
        rintro e w2 ⟨rfl, t2, _⟩
        have hO2 := hO.turned t2 (.inr (Nat.zero_le _))
        have ht2 : Turned lo hi w w2 := ht.trans ⟨t2.os, t2.tape, t2.output, t2.size, fun i h1 h2 => t2.block i h1 (by omega)⟩
        have HN : Hid (mkP Z k (j + 1) = kk + ((0 : Nat) : Int)) := by show _ = _; rw [mkP_succ, hl0, ← HK.out]
        clear hO ht t2 x2 hbz
        go_wp2_with fail
        go_roundw
        case rel =>
          refine ⟨j + 1, by omega, by go_num, by rw [HN.out]; simp, ht2, hO2.congr (fun i hi => ?_)⟩
          by_cases e : i = j
          · subst e; simp [mZP, hne, marked]
          · by_cases e2 : i < j
            · rw [if_pos e2, if_pos (by omega)]
            · rw [if_neg e2, if_neg (by omega)]
        case measure => simp [intOf]; omega
      · have hzj := hzl j hlt
        go_wp2_with fail
        refine (markByteS_any (A j) _ _ (Z j) (Z j).length (C j) kk _ rfl hzj (by omega) (by omega) hbz).mono ?_
        rintro e w2 ⟨rfl, t2, hy2⟩
        have hO2 := hO.setBytes hlt (by simp only [Nat.lt_irrefl, if_false]; exact hne) t2 (ys := mZP Z k j) (by simp only [Nat.lt_irrefl, if_false]; exact mZP_len Z k j) (by unfold mZP; rw [← HK.out]; exact hy2)
        have hfj := hO.fr j hlt (by simp only [Nat.lt_irrefl, if_false]; exact hne)
        have ht2 : Turned lo hi w w2 := ht.trans ⟨t2.os, t2.tape, t2.output, t2.size, fun i h1 h2 => t2.block i h1 (by omega)⟩
        have HN : Hid (mkP Z k (j + 1) = kk + ((Z j).length : Int)) := by show _ = _; rw [mkP_succ, ← HK.out]
        clear hO ht t2 x2 hbz hy2 hfj
        go_wp2_with fail
        go_roundw
        case rel =>
          refine ⟨j + 1, by omega, by go_num, by rw [HN.out], ht2, hO2.congr (fun i hi => ?_)⟩
          by_cases e : i = j
          · subst e; simp
          · simp only [if_neg e]
            by_cases e2 : i < j
            · rw [if_pos e2, if_pos (by omega)]
            · rw [if_neg e2, if_neg (by omega)]
        case measure => simp [intOf]; omega
    · have e : j = n := by omega
      subst e
      go_wp2_with fail
      go_ret
      exact ⟨rfl, ht, hO.congr (fun i hi => by rw [if_pos hi])⟩

set_option maxHeartbeats 1000000 in
theorem heldByteSS_own (b n c : Nat) (lo hi : Nat) (A : Nat → Option Addr) (C : Nat → Nat) (Z : Nat → List Int) (F : Nat → Nat) (k : Int) (w : World) (hm : n + took Z n ≤ 1048576) (hk0 : 0 ≤ k) (hk1 : k ≤ 10000000) (h : OwnP lo hi w b n A C (mZP Z k) F) :
    Calls Try.prog 88 #[.slice (some ⟨b, 0, none⟩) n c, .int .i64 k] w fun e w' => e = .returned (.int .i64 (mkP Z k n)) ∧ w' = w := by
  have hzl : ∀ i, i < n → (Z i).length ≤ 140737488351232 := fun i hi => by have := took_one Z i n hi; omega
  have hmk : ∀ i, i ≤ n → 0 ≤ mkP Z k i ∧ mkP Z k i ≤ 20000000 := fun i hi => by have := took_mono Z i n hi; unfold mkP; omega
  go_enter Try.func88, Try.ntmps88
  go_wp2_with fail
  go_loop [5, 1] (fun i kk => ∃ j : Nat, j ≤ n ∧ i = .int .i64 j ∧ kk = .int .i64 (mkP Z k j)) (fun i _ => n - (intOf i).toNat)
  case atStart => exact ⟨0, Nat.zero_le _, rfl, by simp [mkP, took]⟩
  case round =>
    obtain ⟨j, hj, rfl, rfl⟩ := hrel
    by_cases hlt : j < n
    · have hjn : (j : Int) < (n : Int) := by omega
      have hb1 := hmk j (by omega)
      have hb2 := hmk (j + 1) (by omega)
      have hms := mkP_succ Z k j
      have x1 := h.c1 j hlt
      have hbz := h.by' j hlt
      rw [mZP_len] at x1
      unfold mZP at hbz
      obtain ⟨kk, hkk⟩ : ∃ kk, kk = mkP Z k j := ⟨_, rfl⟩
      rw [← hkk] at hb1 hms hbz ⊢
      rw [hms] at hb2
      have HN : Hid (mkP Z k (j + 1) = kk + ((Z j).length : Int)) := hms
      have hzj := hzl j hlt
      have hpos : ¬ (kk + ((Z j).length : Int) < 0) := by omega
      obtain ⟨hb1, hb3⟩ := hb1
      clear hkk hms
      go_wp2_with fail
      refine (heldByteS_any (A j) _ _ (Z j) (Z j).length (C j) kk _ rfl hzj (by omega) (by omega) hbz).mono ?_
      rintro e w2 ⟨rfl, hw⟩
      subst w2
      go_wp2_with fail
      go_round
      case rel => exact ⟨j + 1, by omega, by go_num, by rw [HN.out]⟩
      case measure => simp [intOf]; omega
    · have e : j = n := by omega
      subst e
      go_wp2_with fail
      go_ret
      exact ⟨rfl, rfl⟩

end Go.Proofs.Yteebbaleejbodaa
