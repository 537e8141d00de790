/-
  heldByteS.
-/
import Derived.Test.YteebbaleejbodaaARBy
import Derived.Test.YteebbaleejbodaaAREdr

namespace Go.Proofs.Yteebbaleejbodaa
open Go.RowKit
set_option linter.unusedVariables false


set_option maxHeartbeats 400000 in
theorem heldByteS_any (a : Option Addr) (lo hi : Nat) (zs : List Int) (n c : Nat) (k : Int) (w : World) (hn : zs.length = n) (hm : n ≤ 140737488351232) (hk0 : 0 ≤ k) (hk1 : k ≤ 140737488351232) (ha : BytesIn lo hi w a (marked k n zs)) :
    Calls Try.prog 137 #[.slice a n c, .int .i64 k] w fun e w' => e = .returned (.int .i64 (k + n)) ∧ w' = w := by
  have hl : (marked k n zs).length = n := by rw [marked_length k n zs (by omega)]; exact hn
  by_cases h0 : n = 0
  · subst h0
    go_enter Try.func137, Try.ntmps137
    go_wp2
    go_rounds 1
    go_ret
    exact ⟨by simp, rfl⟩
  · have hne : marked k n zs ≠ [] := by intro e; rw [e] at hl; simp at hl; omega
    rcases ha with ha | ⟨x, o, rfl, _, _, hc, _⟩
    · exact absurd ha hne
    clear hne
    have HL := hl
    clear hl
    have hc' : ∀ i, i < n → w.cell? ⟨x, o + i, none⟩ = some (.int .u8 (markOf k i)) := fun i hi => by rw [hc i (by omega), marked_lt k n zs i hi]
    clear hc HL
    go_enter Try.func137, Try.ntmps137
    go_wp2
    go_loop [5, 1] (fun i kk => ∃ j : Nat, j ≤ n ∧ i = .int .i64 j ∧ kk = .int .i64 (k + j)) (fun i _ => n - (intOf i).toNat)
    case atStart => exact ⟨0, Nat.zero_le _, rfl, by simp⟩
    case round =>
      obtain ⟨j, hj, rfl, rfl⟩ := hrel
      by_cases hlt : j < n
      · have h1 := hc' j hlt
        unfold markOf at h1
        clear hc'
        have hjn : (j : Int) < (n : Int) := by omega
        go_wp2
        go_round
        case rel => exact ⟨j + 1, by omega, by go_num, by rw [Int.natCast_add, ← Int.add_assoc]; rfl⟩
        case measure => simp [intOf]; omega
      · have e : j = n := by omega
        subst e
        go_wp2
        go_ret
        exact ⟨rfl, rfl⟩

end Go.Proofs.Yteebbaleejbodaa

/-
  Runs marked and looked through: markRunS, heldRunS; RunsResult.
-/
namespace Go.Proofs.Yteebbaleejbodaa
open Go.RowKit
set_option linter.unusedVariables false

section
variable {lo hi b n : Nat} {w w' : World} {P P' : Nat → Int} {A : Nat → Option Addr} {C : Nat → Nat} {Z Z' : Nat → List Int} {F : Nat → Nat}

theorem Own.congr (h : Own lo hi w b n P A C Z F) (hP : ∀ i, i < n → P i = P' i) (hZ : ∀ i, i < n → Z i = Z' i) : Own lo hi w b n P' A C Z' F :=
  ⟨h.l0, h.h0, fun i hi => by rw [← hP i hi]; exact h.c0 i hi, fun i hi => by rw [← hZ i hi]; exact h.c1 i hi, h.f0, h.f1, fun i hi => by rw [← hZ i hi]; exact h.by' i hi, fun i hi e => h.fr i hi (by rw [hZ i hi]; exact e), fun i j hi hj hn e1 e2 => h.ne i j hi hj hn (by rw [hZ i hi]; exact e1) (by rw [hZ j hj]; exact e2)⟩

theorem Own.lt (h : Own lo hi w b n P A C Z F) (h0 : 0 < n) : b < w.heap.size := World.block_lt_of_cell? w _ (h.c0 0 h0)

theorem BytesIn.setCellE {l u : Nat} {a : Option Addr} {zs : List Int} (h : BytesIn l u w a zs) {p : Addr} (hp : zs ≠ [] → p.block < l ∨ u ≤ p.block) (v : Value) : BytesIn l u (w.setCell p v) a zs := by
  by_cases e : zs = []
  · exact .inl e
  · exact h.turned (lo := p.block) (hi := p.block + 1) ((Turned.refl _ _ _).setCell (Nat.le_refl _) (Nat.lt_succ_self _) v) (by have := hp e; omega)

/-- The place of the j-th run is turned. -/
theorem Own.setAt (h : Own lo hi w b n P A C Z F) {j : Nat} (hj : j < n) (v : Int) : Own lo hi (w.setCell ⟨b, j * 2, none⟩ (.int .i64 v)) b n (fun i => if i = j then v else P i) A C Z F := by
  refine ⟨h.l0, h.h0, fun i hi => ?_, fun i hi => ?_, fun i hi => by rw [World.frozen?_setCell]; exact h.f0 i hi, fun i hi => by rw [World.frozen?_setCell]; exact h.f1 i hi, fun i hi => (h.by' i hi).setCellE (fun e => by have := h.fr i hi e; simp only; omega) _, h.fr, h.ne⟩
  · by_cases e : i = j
    · subst e
      simp only [if_true]
      exact World.cell?_setCell_same _ _ _ (h.c0 i hi)
    · simp only [if_neg e]
      rw [World.cell?_setCell_other _ _ _ _ (fun e2 => e (by have := congrArg Addr.off e2; simp at this; omega))]
      exact h.c0 i hi
  · rw [World.cell?_setCell_other _ _ _ _ (fun e2 => by have := congrArg Addr.off e2; simp at this; omega)]
    exact h.c1 i hi

/-- The bytes of the j-th run are turned. -/
theorem Own.setBytes (h : Own lo hi w b n P A C Z F) {j : Nat} (hj : j < n) (hne : Z j ≠ []) (ht : Turned (F j) (F j + 1) w w') {ys : List Int} (hl : ys.length = (Z j).length) (hy : BytesIn (F j) (F j + 1) w' (A j) ys) : Own lo hi w' b n P A C (fun i => if i = j then ys else Z i) F := by
  have hfj := h.fr j hj hne
  have hyn : ys ≠ [] := fun e => hne (by rw [e] at hl; exact List.eq_nil_of_length_eq_zero hl.symm)
  refine ⟨h.l0, h.h0, fun i hi => ht.cell (h.c0 i hi) (by simp only; omega), fun i hi => ?_, fun i hi => (ht.frozen (h.c0 i hi) (by simp only; omega)).trans (h.f0 i hi), fun i hi => (ht.frozen (h.c1 i hi) (by simp only; omega)).trans (h.f1 i hi), fun i hi => ?_, fun i hi e => ?_, fun i k hi hk hn e1 e2 => ?_⟩
  · rw [ht.cell (h.c1 i hi) (by simp only; omega)]
    by_cases e : i = j
    · subst e
      simp only [if_true]
      rw [hl]
    · simp only [if_neg e]
  · by_cases e : i = j
    · subst e
      simp only [if_true]
      exact hy
    · simp only [if_neg e]
      exact (h.by' i hi).turnedE ht (fun e2 => by have := h.ne i j hi hj e e2 hne; omega)
  · by_cases e3 : i = j
    · subst e3; exact hfj
    · simp only [if_neg e3] at e; exact h.fr i hi e
  · refine h.ne i k hi hk hn ?_ ?_
    · by_cases e3 : i = j
      · subst e3; exact hne
      · simpa only [if_neg e3] using e1
    · by_cases e3 : k = j
      · subst e3; exact hne
      · simpa only [if_neg e3] using e2
end

/-- The number with which the i-th run's marks begin. -/
def mk (Z : Nat → List Int) (k : Int) (i : Nat) : Int := k + i + took Z i
theorem mk_succ (Z : Nat → List Int) (k : Int) (i : Nat) : mk Z k (i + 1) = mk Z k i + 1 + (Z i).length := by unfold mk; simp only [took]; omega
/-- The bytes of the i-th run, marked. -/
def mZ (Z : Nat → List Int) (k : Int) (i : Nat) : List Int := marked (mk Z k i + 1) (Z i).length (Z i)
theorem mZ_len (Z : Nat → List Int) (k : Int) (i : Nat) : (mZ Z k i).length = (Z i).length := marked_length _ _ _ (Nat.le_refl _)

set_option maxHeartbeats 1000000 in
theorem markRunS_own (b n c : Nat) (lo hi : Nat) (P : Nat → Int) (A : Nat → Option Addr) (C : Nat → Nat) (Z : Nat → List Int) (F : Nat → Nat) (k : Int) (w : World) (hm : n + took Z n ≤ 1048576) (hk0 : 0 ≤ k) (hk1 : k ≤ 10000000) (h : Own lo hi w b n P A C Z F) :
    Calls Try.prog 86 #[.slice (some ⟨b, 0, none⟩) n c, .int .i64 k] w fun e w' => e = .returned (.int .i64 (mk Z k n)) ∧ Turned lo hi w w' ∧ Own lo hi w' b n (mk Z k) A C (mZ Z k) F := by
  have hzl : ∀ i, i < n → (Z i).length ≤ 140737488351232 := fun i hi => by have := took_one Z i n hi; omega
  have hmk : ∀ i, i ≤ n → 0 ≤ mk Z k i ∧ mk Z k i ≤ 20000000 := fun i hi => by have := took_mono Z i n hi; unfold mk; omega
  go_enter Try.func86, Try.ntmps86
  go_wp2_with fail
  go_loopw [5, 1] (fun i kk wr => ∃ j : Nat, j ≤ n ∧ i = .int .i64 j ∧ kk = .int .i64 (mk Z k j) ∧ Turned lo hi w wr ∧ Own lo hi wr b n (fun i => if i < j then mk Z k i else P i) A C (fun i => if i < j then mZ Z k i else Z i) F) (fun i _ _ => n - (intOf i).toNat)
  case atStart => exact ⟨0, Nat.zero_le _, rfl, by simp [mk, took], Turned.refl _ _ _, h.congr (fun i _ => by simp) (fun i _ => by simp)⟩
  case round =>
    obtain ⟨j, hj, rfl, rfl, ht, hO⟩ := hrel
    clear h
    by_cases hlt : j < n
    · have hjn : (j : Int) < (n : Int) := by omega
      obtain ⟨kk, hkk⟩ : ∃ kk, kk = mk Z k j := ⟨_, rfl⟩
      have hb1 := hmk j (by omega)
      rw [← hkk] at hb1 ⊢
      have x0 := hO.c0 j hlt
      have y0 := hO.f0 j hlt
      have x1 := hO.c1 j hlt
      simp only [Nat.lt_irrefl, if_false] at x0 x1
      have hO1 := hO.setAt hlt kk
      have ht1 := ht.setCell (p := ⟨b, j * 2, none⟩) hO.l0 hO.h0 (.int .i64 kk)
      obtain ⟨hb1, hb2⟩ := hb1
      have HK : Hid (kk = mk Z k j) := hkk
      clear hkk
      go_upto_region 5 with (fail)
      have x2 := hO1.c1 j hlt
      simp only [Nat.lt_irrefl, if_false] at x2
      clear x0 y0 x1 hO ht
      generalize wr.setCell ⟨b, j * 2, none⟩ (.int .i64 kk) = V at hO1 ht1 x2 ⊢
      have hbz := hO1.by' j hlt
      simp only [Nat.lt_irrefl, if_false] at hbz
      by_cases hne : Z j = []
      · have hl0 : (Z j).length = 0 := by rw [hne]; rfl
        rw [hl0] at x2
        have hbz0 : BytesIn 0 0 V (A j) [] := .inl rfl
        go_wp2_with fail
        refine (markByteS_any (A j) 0 0 [] 0 (C j) (kk + 1) _ rfl (by omega) (by omega) (by omega) hbz0).mono ?_
        rintro e w2 ⟨rfl, t2, _⟩
        have hO2 := hO1.turned t2 (.inr (Nat.zero_le _))
        have ht2 : Turned lo hi w w2 := ht1.trans ⟨t2.os, t2.tape, t2.output, t2.size, fun i h1 h2 => t2.block i h1 (by omega)⟩
        have HN : Hid (mk Z k (j + 1) = kk + 1 + ((0 : Nat) : Int)) := by show _ = _; rw [mk_succ, hl0, ← HK.out]
        clear hO1 ht1 t2 x2 hbz
        go_wp2_with fail
        go_roundw
        case rel =>
          refine ⟨j + 1, by omega, by go_num, by rw [HN.out]; simp, ht2, hO2.congr (fun i hi => ?_) (fun i hi => ?_)⟩
          · by_cases e : i = j
            · subst e; simp [HK.out]
            · simp only [if_neg e]
              by_cases e2 : i < j
              · rw [if_pos e2, if_pos (by omega)]
              · rw [if_neg e2, if_neg (by omega)]
          · by_cases e : i = j
            · subst e; simp [mZ, hne, marked]
            · by_cases e2 : i < j
              · rw [if_pos e2, if_pos (by omega)]
              · rw [if_neg e2, if_neg (by omega)]
        case measure => simp [intOf]; omega
      · have hzj := hzl j hlt
        go_wp2_with fail
        refine (markByteS_any (A j) _ _ (Z j) (Z j).length (C j) (kk + 1) _ rfl hzj (by omega) (by omega) hbz).mono ?_
        rintro e w2 ⟨rfl, t2, hy2⟩
        have hO2 := hO1.setBytes hlt (by simp only [Nat.lt_irrefl, if_false]; exact hne) t2 (ys := mZ Z k j) (by simp only [Nat.lt_irrefl, if_false]; exact mZ_len Z k j) (by unfold mZ; rw [← HK.out]; exact hy2)
        have hfj := hO1.fr j hlt (by simp only [Nat.lt_irrefl, if_false]; exact hne)
        have ht2 : Turned lo hi w w2 := ht1.trans ⟨t2.os, t2.tape, t2.output, t2.size, fun i h1 h2 => t2.block i h1 (by omega)⟩
        have HN : Hid (mk Z k (j + 1) = kk + 1 + ((Z j).length : Int)) := by show _ = _; rw [mk_succ, ← HK.out]
        clear hO1 ht1 t2 x2 hbz hy2 hfj
        go_wp2_with fail
        go_roundw
        case rel =>
          refine ⟨j + 1, by omega, by go_num, by rw [HN.out], ht2, hO2.congr (fun i hi => ?_) (fun i hi => ?_)⟩
          · by_cases e : i = j
            · subst e; simp [HK.out]
            · simp only [if_neg e]
              by_cases e2 : i < j
              · rw [if_pos e2, if_pos (by omega)]
              · rw [if_neg e2, if_neg (by omega)]
          · by_cases e : i = j
            · subst e; simp
            · simp only [if_neg e]
              by_cases e2 : i < j
              · rw [if_pos e2, if_pos (by omega)]
              · rw [if_neg e2, if_neg (by omega)]
        case measure => simp [intOf]; omega
    · have e : j = n := by omega
      subst e
      go_wp2_with fail
      go_ret
      exact ⟨rfl, ht, hO.congr (fun i hi => by rw [if_pos hi]) (fun i hi => by rw [if_pos hi])⟩

set_option maxHeartbeats 1000000 in
theorem heldRunS_own (b n c : Nat) (lo hi : Nat) (A : Nat → Option Addr) (C : Nat → Nat) (Z : Nat → List Int) (F : Nat → Nat) (k : Int) (w : World) (hm : n + took Z n ≤ 1048576) (hk0 : 0 ≤ k) (hk1 : k ≤ 10000000) (h : Own lo hi w b n (mk Z k) A C (mZ Z k) F) :
    Calls Try.prog 87 #[.slice (some ⟨b, 0, none⟩) n c, .int .i64 k] w fun e w' => e = .returned (.int .i64 (mk Z k n)) ∧ w' = w := by
  have hzl : ∀ i, i < n → (Z i).length ≤ 140737488351232 := fun i hi => by have := took_one Z i n hi; omega
  have hmk : ∀ i, i ≤ n → 0 ≤ mk Z k i ∧ mk Z k i ≤ 20000000 := fun i hi => by have := took_mono Z i n hi; unfold mk; omega
  go_enter Try.func87, Try.ntmps87
  go_wp2_with fail
  go_loop [5, 1] (fun i kk => ∃ j : Nat, j ≤ n ∧ i = .int .i64 j ∧ kk = .int .i64 (mk Z k j)) (fun i _ => n - (intOf i).toNat)
  case atStart => exact ⟨0, Nat.zero_le _, rfl, by simp [mk, took]⟩
  case round =>
    obtain ⟨j, hj, rfl, rfl⟩ := hrel
    by_cases hlt : j < n
    · have hjn : (j : Int) < (n : Int) := by omega
      have hb1 := hmk j (by omega)
      have hb2 := hmk (j + 1) (by omega)
      have hms := mk_succ Z k j
      have x0 := h.c0 j hlt
      have x1 := h.c1 j hlt
      have hbz := h.by' j hlt
      rw [mZ_len] at x1
      unfold mZ at hbz
      obtain ⟨kk, hkk⟩ : ∃ kk, kk = mk Z k j := ⟨_, rfl⟩
      rw [← hkk] at hb1 hms x0 hbz ⊢
      rw [hms] at hb2
      have HN : Hid (mk Z k (j + 1) = kk + 1 + ((Z j).length : Int)) := hms
      have hzj := hzl j hlt
      have hpos : ¬ (kk + 1 + ((Z j).length : Int) < 0) := by omega
      obtain ⟨hb1, hb3⟩ := hb1
      clear hkk hms
      go_wp2_with fail
      refine (heldByteS_any (A j) _ _ (Z j) (Z j).length (C j) (kk + 1) _ rfl hzj (by omega) (by omega) hbz).mono ?_
      rintro e w2 ⟨rfl, hw⟩
      subst w2
      go_wp2_with fail
      go_round
      case rel => exact ⟨j + 1, by omega, by go_num, by rw [HN.out]⟩
      case measure => simp [intOf]; omega
    · have e : j = n := by omega
      subst e
      go_wp2_with fail
      go_ret
      exact ⟨rfl, rfl⟩

end Go.Proofs.Yteebbaleejbodaa
