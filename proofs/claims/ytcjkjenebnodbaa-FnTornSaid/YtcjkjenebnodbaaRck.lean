/-
  eqRecordS, markRecordS, heldRecordS, and what hands a RecordsResult to them.
-/
import Derived.Test.YtcjkjenebnodbaaRcm
namespace Go.Proofs.Ytcjkjenebnodbaa
open Go.RowKit
set_option linter.unusedVariables false

set_option maxHeartbeats 2000000 in
theorem eqRecordS_same (a b : Option Addr) (n c d : Nat) (R : Nat → Rc) (D E : Nat → Ad) (la ua lb ub : Nat) (w : World) (hn : n ≤ 1048576) (hr : ∀ i, i < n → (R i).n + took (R i).Z (R i).n ≤ 1048576) (hx : OwnRS la ua w a n R D) (hy : OwnRS lb ub w b n R E) :
    Calls Try.prog 52 #[.slice a n c, .slice b n d] w fun e w' => e = .returned (.bool true) ∧ Below w.heap.size w w' := by
  by_cases h0 : n = 0
  · subst h0
    go_enter Try.func52, Try.ntmps52
    go_wp2_with fail
    go_rounds 1
    go_ret
    exact ⟨rfl, Below.refl _ _⟩
  obtain ⟨x, rfl, hx'⟩ := hx.resolve_left h0
  obtain ⟨y, rfl, hy'⟩ := hy.resolve_left h0
  have HR : Hid (∀ i, i < n → (R i).n + took (R i).Z (R i).n ≤ 1048576) := hr
  clear hr
  go_enter Try.func52, Try.ntmps52
  go_wp2_with fail
  go_loopw [5] (fun i wr => ∃ k : Nat, k ≤ n ∧ i = .int .i64 k ∧ Below w.heap.size w wr ∧ OwnR la ua wr x n R D ∧ OwnR lb ub wr y n R E) (fun i _ => n - (intOf i).toNat)
  case atStart => exact ⟨0, Nat.zero_le _, rfl, Below.refl _ _, hx', hy'⟩
  case round =>
    obtain ⟨k, hk, rfl, g, hx, hy⟩ := hrel
    by_cases hlt : k < n
    · have hkn : (k : Int) < (n : Int) := by omega
      have hrk := HR.out k hlt
      have x0 := hx.c0 k hlt
      have x1 := hx.c1 k hlt
      have x2 := hx.c2 k hlt
      have x3 := hx.c3 k hlt
      have y0 := hy.c0 k hlt
      have y1 := hy.c1 k hlt
      have y2 := hy.c2 k hlt
      have y3 := hy.c3 k hlt
      have hxr : OwnS (D k).lo (D k).hi wr (D k).a (R k).n (R k).P (D k).A (D k).C (R k).Z (D k).F := hx.rn k hlt
      have hyr : OwnS (E k).lo (E k).hi wr (E k).a (R k).n (R k).P (E k).A (E k).C (R k).Z (E k).F := hy.rn k hlt
      generalize R k = r at hrk x0 x1 x2 x3 y0 y1 y2 y3 hxr hyr
      generalize D k = dk at x3 hxr
      generalize E k = ek at y3 hyr
      have HS : Hid (∀ V, Below wr.heap.size wr V → V.cell? ⟨x, k * 4, none⟩ = some (.int .i64 r.k) ∧ V.cell? ⟨x, k * 4 + 1, none⟩ = some (.int .i64 r.t) ∧ V.cell? ⟨x, k * 4 + 2, none⟩ = some (.int .i64 r.g) ∧ V.cell? ⟨x, k * 4 + 3, none⟩ = some (.slice dk.a r.n dk.c) ∧ V.cell? ⟨y, k * 4, none⟩ = some (.int .i64 r.k) ∧ V.cell? ⟨y, k * 4 + 1, none⟩ = some (.int .i64 r.t) ∧ V.cell? ⟨y, k * 4 + 2, none⟩ = some (.int .i64 r.g) ∧ V.cell? ⟨y, k * 4 + 3, none⟩ = some (.slice ek.a r.n ek.c)) := fun V hV =>
        ⟨cellUp hV x0, cellUp hV x1, cellUp hV x2, cellUp hV x3, cellUp hV y0, cellUp hV y1, cellUp hV y2, cellUp hV y3⟩
      have HX : Hid (OwnS dk.lo dk.hi wr dk.a r.n r.P dk.A dk.C r.Z dk.F) := hxr
      have HY : Hid (OwnS ek.lo ek.hi wr ek.a r.n r.P ek.A ek.C r.Z ek.F) := hyr
      clear hxr hyr
      go_wp2_with fail
      go_region_held (fun V => Below wr.heap.size wr V ∧ V.cell? ⟨x, k * 4, none⟩ = some (.int .i64 r.k) ∧ V.cell? ⟨x, k * 4 + 1, none⟩ = some (.int .i64 r.t) ∧ V.cell? ⟨x, k * 4 + 2, none⟩ = some (.int .i64 r.g) ∧ V.cell? ⟨x, k * 4 + 3, none⟩ = some (.slice dk.a r.n dk.c) ∧ V.cell? ⟨y, k * 4, none⟩ = some (.int .i64 r.k) ∧ V.cell? ⟨y, k * 4 + 1, none⟩ = some (.int .i64 r.t) ∧ V.cell? ⟨y, k * 4 + 2, none⟩ = some (.int .i64 r.g) ∧ V.cell? ⟨y, k * 4 + 3, none⟩ = some (.slice ek.a r.n ek.c)) (first | exact eqKeepD HS.out (by assumption) | exact eqKeep HS.out (Below.refl _ _) (by go_grown)) (first | (go_at_call 34; refine (eqRecord_sameS r.k r.t r.g dk.a ek.a r.n dk.c ek.c r.P dk.A ek.A dk.C ek.C r.Z dk.F ek.F _ _ _ _ _ hrk (HX.out.below (by first | assumption | go_grown)) (HY.out.below (by first | assumption | go_grown))).mono ?_; rintro e w' ⟨rfl, hb⟩))
      rename_i hV
      have g : Below w.heap.size w w' := g.trans (hV.1.mono g.size)
      have hx := hx.below hV.1
      have hy := hy.below hV.1
      clear hV x0 x1 x2 x3 y0 y1 y2 y3 HX HY HS hb
      go_wp2_with fail
      go_roundw
      case rel => exact ⟨k + 1, by omega, by go_num, g, hx, hy⟩
      case measure => simp [intOf]; omega
    · go_wp2_with fail
      go_ret
      exact ⟨rfl, g⟩

set_option maxHeartbeats 2000000 in
theorem markRecordS_S (a : Option Addr) (n c : Nat) (lo hi : Nat) (R : Nat → Rc) (D : Nat → Ad) (k : Int) (w : World) (hm : tookR R n ≤ 8000000) (hn : n ≤ 1048576) (hr : ∀ i, i < n → (R i).n + took (R i).Z (R i).n ≤ 1048576) (hk0 : 0 ≤ k) (hk1 : k ≤ 1000000) (h : OwnRS lo hi w a n R D) :
    Calls Try.prog 65 #[.slice a n c, .int .i64 k] w fun e w' => e = .returned (.int .i64 (rmk R k n)) ∧ Turned lo hi w w' ∧ OwnRS lo hi w' a n (mR R k) D := by
  by_cases h0 : n = 0
  · subst h0
    go_enter Try.func65, Try.ntmps65
    go_wp2_with fail
    go_rounds 1
    go_ret
    exact ⟨by simp [rmk, tookR], Turned.refl _ _ _, .inl rfl⟩
  obtain ⟨b, rfl, h'⟩ := h.resolve_left h0
  have HR : Hid (∀ i, i < n → (R i).n + took (R i).Z (R i).n ≤ 1048576) := hr
  have hmk : Hid (∀ i, i ≤ n → 0 ≤ rmk R k i ∧ rmk R k i ≤ 9000000) := fun i hi => by have := tookR_mono R i n hi; unfold rmk; omega
  clear hr
  go_enter Try.func65, Try.ntmps65
  go_wp2_with fail
  go_loopw [5, 1] (fun i kk wr => ∃ j : Nat, j ≤ n ∧ i = .int .i64 j ∧ kk = .int .i64 (rmk R k j) ∧ Turned lo hi w wr ∧ OwnR lo hi wr b n (fun i => if i < j then mR R k i else R i) D) (fun i _ _ => n - (intOf i).toNat)
  case atStart => exact ⟨0, Nat.zero_le _, rfl, by simp [rmk, tookR], Turned.refl _ _ _, h'.congr (fun i _ => by simp)⟩
  case round =>
    obtain ⟨j, hj, rfl, rfl, ht, hO⟩ := hrel
    clear h h'
    by_cases hlt : j < n
    · have hjn : (j : Int) < (n : Int) := by omega
      obtain ⟨kk, hkk⟩ : ∃ kk, kk = rmk R k j := ⟨_, rfl⟩
      have hb1 := hmk.out j (by omega)
      have hrj := HR.out j hlt
      rw [← hkk] at hb1 ⊢
      obtain ⟨hb1, hb2⟩ := hb1
      have x0 := hO.c0 j hlt
      have x1 := hO.c1 j hlt
      have x2 := hO.c2 j hlt
      have x3 := hO.c3 j hlt
      have f0 := hO.f0 j hlt
      have f1 := hO.f1 j hlt
      have f2 := hO.f2 j hlt
      simp only [Nat.lt_irrefl, if_false] at x0 x1 x2 x3
      have hO1 := hO.set3 hlt kk (kk + 1) (kk + 1 + 1)
      have ht1 := ((ht.setCell (p := ⟨b, j * 4, none⟩) hO.l0 hO.h0 (.int .i64 kk)).setCell (p := ⟨b, j * 4 + 1, none⟩) hO.l0 hO.h0 (.int .i64 (kk + 1))).setCell (p := ⟨b, j * 4 + 2, none⟩) hO.l0 hO.h0 (.int .i64 (kk + 1 + 1))
      have HK : Hid (kk = rmk R k j) := hkk
      clear hkk
      go_upto_region 10 with (fail)
      have y3 := hO1.c3 j hlt
      have hrn := hO1.rn j hlt
      have hfr := hO1.fr j hlt
      clear x0 x1 x2 x3 f0 f1 f2 hO ht
      generalize ((wr.setCell ⟨b, j * 4, none⟩ (.int .i64 kk)).setCell ⟨b, j * 4 + 1, none⟩ (.int .i64 (kk + 1))).setCell ⟨b, j * 4 + 2, none⟩ (.int .i64 (kk + 1 + 1)) = V at hO1 ht1 y3 hrn ⊢
      simp only [if_true, Nat.lt_irrefl, if_false] at y3 hrn
      have hrn : OwnS (D j).lo (D j).hi V (D j).a (R j).n (R j).P (D j).A (D j).C (R j).Z (D j).F := hrn
      have HN : Hid (rmk R k (j + 1) = mk (R j).Z (kk + 1 + 1 + 1) (R j).n) := by show _ = _; rw [rmk_succ, ← HK.out]
      go_wp2_with fail
      refine (markRunS_S (D j).a (R j).n (D j).c (D j).lo (D j).hi (R j).P (D j).A (D j).C (R j).Z (D j).F (kk + 1 + 1 + 1) _ hrj (by omega) (by omega) hrn).mono ?_
      rintro e w2 ⟨rfl, t2, ho2⟩
      have hO2 := hO1.setRuns hlt (r := mR R k j) (by simp only [if_true, mR]; exact HK.out.symm) (by simp only [if_true, mR]; rw [← HK.out]) (by simp only [if_true, mR]; rw [← HK.out]) (by simp only [if_true, Nat.lt_irrefl, if_false, mR]) t2 (by unfold RunsAt mR; rw [← HK.out]; exact ho2)
      have ht2 : Turned lo hi w w2 := ht1.trans ⟨t2.os, t2.tape, t2.output, t2.size, fun i h1 h2 => t2.block i h1 (by omega)⟩
      rw [← HN.out]
      clear hO1 ht1 t2 y3 hrn ho2 hfr
      obtain ⟨kn, hkn⟩ : ∃ kn, kn = rmk R k (j + 1) := ⟨_, rfl⟩
      rw [← hkn]
      have HKn : Hid (kn = rmk R k (j + 1)) := hkn
      clear hkn HN
      go_wp2_with fail
      go_roundw
      case rel =>
        refine ⟨j + 1, by omega, by go_num, ?_, ht2, hO2.congr (fun i hi => ?_)⟩
        · rw [HKn.out]
        · by_cases e : i = j
          · subst e; simp
          · simp only [if_neg e]
            by_cases e2 : i < j
            · rw [if_pos e2, if_pos (by omega)]
            · rw [if_neg e2, if_neg (by omega)]
      case measure => simp [intOf]; omega
    · have e : j = n := by omega
      subst e
      go_wp2_with fail
      go_ret
      exact ⟨rfl, ht, .inr ⟨b, rfl, hO.congr (fun i hi => by rw [if_pos hi])⟩⟩

set_option maxHeartbeats 2000000 in
theorem heldRecordS_S (a : Option Addr) (n c : Nat) (lo hi : Nat) (R : Nat → Rc) (D : Nat → Ad) (k : Int) (w : World) (hm : tookR R n ≤ 8000000) (hn : n ≤ 1048576) (hr : ∀ i, i < n → (R i).n + took (R i).Z (R i).n ≤ 1048576) (hk0 : 0 ≤ k) (hk1 : k ≤ 1000000) (h : OwnRS lo hi w a n (mR R k) D) :
    Calls Try.prog 107 #[.slice a n c, .int .i64 k] w fun e w' => e = .returned (.int .i64 (rmk R k n)) ∧ w' = w := by
  by_cases h0 : n = 0
  · subst h0
    go_enter Try.func107, Try.ntmps107
    go_wp2_with fail
    go_rounds 1
    go_ret
    exact ⟨by simp [rmk, tookR], rfl⟩
  obtain ⟨b, rfl, h'⟩ := h.resolve_left h0
  have HR : Hid (∀ i, i < n → (R i).n + took (R i).Z (R i).n ≤ 1048576) := hr
  have hmk : Hid (∀ i, i ≤ n → 0 ≤ rmk R k i ∧ rmk R k i ≤ 9000000) := fun i hi => by have := tookR_mono R i n hi; unfold rmk; omega
  have HO : Hid (OwnR lo hi w b n (mR R k) D) := h'
  clear hr h h'
  go_enter Try.func107, Try.ntmps107
  go_wp2_with fail
  go_loop [5, 1] (fun i kk => ∃ j : Nat, j ≤ n ∧ i = .int .i64 j ∧ kk = .int .i64 (rmk R k j)) (fun i _ => n - (intOf i).toNat)
  case atStart => exact ⟨0, Nat.zero_le _, rfl, by simp [rmk, tookR]⟩
  case round =>
    obtain ⟨j, hj, rfl, rfl⟩ := hrel
    by_cases hlt : j < n
    · have hjn : (j : Int) < (n : Int) := by omega
      have hb1 := hmk.out j (by omega)
      have hb2 := hmk.out (j + 1) (by omega)
      have hrj := HR.out j hlt
      have hms := rmk_succ R k j
      have x0 := HO.out.c0 j hlt
      have x1 := HO.out.c1 j hlt
      have x2 := HO.out.c2 j hlt
      have x3 := HO.out.c3 j hlt
      have hrn := HO.out.rn j hlt
      obtain ⟨kk, hkk⟩ : ∃ kk, kk = rmk R k j := ⟨_, rfl⟩
      have e0 : (mR R k j).k = kk := hkk.symm
      have e1 : (mR R k j).t = kk + 1 := by rw [hkk]; rfl
      have e2 : (mR R k j).g = kk + 1 + 1 := by rw [hkk]; rfl
      have e3 : (mR R k j).n = (R j).n := rfl
      have hrn : OwnS (D j).lo (D j).hi w (D j).a (R j).n (mk (R j).Z (kk + 1 + 1 + 1)) (D j).A (D j).C (mZ (R j).Z (kk + 1 + 1 + 1)) (D j).F := by rw [hkk]; exact hrn
      rw [e0] at x0
      rw [e1] at x1
      rw [e2] at x2
      rw [e3] at x3
      rw [← hkk] at hb1 hms ⊢
      rw [hms] at hb2
      have HN : Hid (rmk R k (j + 1) = mk (R j).Z (kk + 1 + 1 + 1) (R j).n) := hms
      have hpos : ¬ (mk (R j).Z (kk + 1 + 1 + 1) (R j).n < 0) := by omega
      obtain ⟨hb1, hb3⟩ := hb1
      have HRn : Hid (OwnS (D j).lo (D j).hi w (D j).a (R j).n (mk (R j).Z (kk + 1 + 1 + 1)) (D j).A (D j).C (mZ (R j).Z (kk + 1 + 1 + 1)) (D j).F) := hrn
      clear hkk hms e0 e1 e2 e3 hrn hb2
      go_wp2_with fail
      refine (heldRunS_S (D j).a (R j).n (D j).c (D j).lo (D j).hi (D j).A (D j).C (R j).Z (D j).F (kk + 1 + 1 + 1) _ hrj (by omega) (by omega) HRn.out).mono ?_
      rintro e w2 ⟨rfl, hw⟩
      subst w2
      go_wp2_with fail
      go_round
      case rel => exact ⟨j + 1, by omega, by go_num, by rw [HN.out]⟩
      case measure => simp [intOf]; omega
    · have e : j = n := by omega
      subst e
      go_wp2_with fail
      go_ret
      exact ⟨rfl, rfl⟩

set_option maxHeartbeats 1000000 in
theorem eqRecordsResult_same (q u : Int) (a b : Option Addr) (n c d : Nat) (R : Nat → Rc) (D E : Nat → Ad) (la ua lb ub : Nat) (w : World) (hn : n ≤ 1048576) (hr : ∀ i, i < n → (R i).n + took (R i).Z (R i).n ≤ 1048576) (hx : OwnRS la ua w a n R D) (hy : OwnRS lb ub w b n R E) :
    Calls Try.prog 62 #[.agg #[.int .i64 q, .int .i64 u, .slice a n c], .agg #[.int .i64 q, .int .i64 u, .slice b n d]] w fun e w' => e = .returned (.bool true) ∧ Below w.heap.size w w' := by
  have HX : Hid (OwnRS la ua w a n R D) := hx
  have HY : Hid (OwnRS lb ub w b n R E) := hy
  have HR : Hid (∀ i, i < n → (R i).n + took (R i).Z (R i).n ≤ 1048576) := hr
  clear hx hy hr
  go_enter Try.func62, Try.ntmps62
  go_wp2_with fail
  refine (eqRecordS_same a b n c d R D E la ua lb ub _ hn HR.out (HX.out.below (by go_grown)) (HY.out.below (by go_grown))).mono ?_
  rintro e w' ⟨rfl, hb⟩
  have g : Below w.heap.size w w' := Below.trans (by go_grown) (hb.mono (by simp; omega))
  clear hb
  go_wp2_with fail
  go_ret
  exact ⟨rfl, g⟩

set_option maxHeartbeats 1000000 in
theorem markRecordsResult_any (q u : Int) (a : Option Addr) (n c : Nat) (lo hi : Nat) (R : Nat → Rc) (D : Nat → Ad) (k : Int) (w : World) (hm : tookR R n ≤ 8000000) (hn : n ≤ 1048576) (hr : ∀ i, i < n → (R i).n + took (R i).Z (R i).n ≤ 1048576) (hk0 : 0 ≤ k) (hk1 : k ≤ 1000000) (h : OwnRS lo hi w a n R D) :
    Calls Try.prog 63 #[.agg #[.int .i64 q, .int .i64 u, .slice a n c], .int .i64 k] w fun e w' => e = .returned (.int .i64 (rmk R k n)) ∧ Turned lo hi w w' ∧ OwnRS lo hi w' a n (mR R k) D := by
  have HX : Hid (OwnRS lo hi w a n R D) := h
  have HR : Hid (∀ i, i < n → (R i).n + took (R i).Z (R i).n ≤ 1048576) := hr
  clear h hr
  go_enter Try.func63, Try.ntmps63
  go_wp2_with fail
  refine (markRecordS_S a n c lo hi R D k _ hm hn HR.out hk0 hk1 (HX.out.below (by go_grown))).mono ?_
  rintro e w' ⟨rfl, ht, ho⟩
  have h1 : Turned lo hi w w' := Turned.trans (Turned.ofBelow (by go_grown)) ht
  clear ht
  go_wp2_with fail
  go_ret
  exact ⟨rfl, h1, ho⟩

set_option maxHeartbeats 1000000 in
theorem heldRecordsResult_any (q u : Int) (a : Option Addr) (n c : Nat) (lo hi : Nat) (R : Nat → Rc) (D : Nat → Ad) (k : Int) (w : World) (hm : tookR R n ≤ 8000000) (hn : n ≤ 1048576) (hr : ∀ i, i < n → (R i).n + took (R i).Z (R i).n ≤ 1048576) (hk0 : 0 ≤ k) (hk1 : k ≤ 1000000) (h : OwnRS lo hi w a n (mR R k) D) :
    Calls Try.prog 64 #[.agg #[.int .i64 q, .int .i64 u, .slice a n c], .int .i64 k] w fun e w' => e = .returned (.int .i64 (rmk R k n)) ∧ Below w.heap.size w w' := by
  have HX : Hid (OwnRS lo hi w a n (mR R k) D) := h
  have HR : Hid (∀ i, i < n → (R i).n + took (R i).Z (R i).n ≤ 1048576) := hr
  have hpos : ¬ (rmk R k n < 0) := by unfold rmk; omega
  clear h hr
  go_enter Try.func64, Try.ntmps64
  go_wp2_with fail
  refine (heldRecordS_S a n c lo hi R D k _ hm hn HR.out hk0 hk1 (HX.out.below (by go_grown))).mono ?_
  rintro e w' ⟨rfl, hw'⟩
  subst w'
  go_wp2_with fail
  go_ret
  exact ⟨rfl, by go_grown⟩

end Go.Proofs.Ytcjkjenebnodbaa
