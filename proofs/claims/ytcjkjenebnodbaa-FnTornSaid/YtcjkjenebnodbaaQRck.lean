/-
  eqRecordS, markRecordS, heldRecordS, and what hands a RecordsResult to them.
-/
import Derived.Test.YtcjkjenebnodbaaQRcm

namespace Go.Proofs.Ytcjkjenebnodbaa
open Go.RowKit
set_option linter.unusedVariables false

set_option maxHeartbeats 2000000 in
theorem eqRecordS_same (a b : Option Addr) (n c d : Nat) (R : Nat → Rc) (D E : Nat → Ad) (la ua lb ub : Nat) (w : World) (hn : n ≤ 1048576) (hr : ∀ i, i < n → (R i).n + took (R i).Z (R i).n ≤ 1048576) (hx : OwnRS la ua w a n R D) (hy : OwnRS lb ub w b n R E) :
    Calls Try.prog 52 #[.slice a n c, .slice b n d] w fun e w' => e = .returned (.bool true) ∧ Below w.heap.size w w' := by
  by_cases h0 : n = 0
  · subst h0
    go_enter Try.func52, Try.ntmps52
    go_wp2_with fail
    go_rounds 1
    go_ret
    exact ⟨rfl, Below.refl _ _⟩
  obtain ⟨x, rfl, hx'⟩ := hx.resolve_left h0
  obtain ⟨y, rfl, hy'⟩ := hy.resolve_left h0
  have HR : Hid (∀ i, i < n → (R i).n + took (R i).Z (R i).n ≤ 1048576) := hr
  clear hr
  go_enter Try.func52, Try.ntmps52
  go_wp2_with fail
  go_loopw [5] (fun i wr => ∃ k : Nat, k ≤ n ∧ i = .int .i64 k ∧ Below w.heap.size w wr ∧ OwnR la ua wr x n R D ∧ OwnR lb ub wr y n R E) (fun i _ => n - (intOf i).toNat)
  case atStart => exact ⟨0, Nat.zero_le _, rfl, Below.refl _ _, hx', hy'⟩
  case round =>
    obtain ⟨k, hk, rfl, g, hx, hy⟩ := hrel
    by_cases hlt : k < n
    · have hkn : (k : Int) < (n : Int) := by omega
      have hrk := HR.out k hlt
      have x0 := hx.c0 k hlt
      have x1 := hx.c1 k hlt
      have x2 := hx.c2 k hlt
      have x3 := hx.c3 k hlt
      have y0 := hy.c0 k hlt
      have y1 := hy.c1 k hlt
      have y2 := hy.c2 k hlt
      have y3 := hy.c3 k hlt
      have hxr : OwnS (D k).lo (D k).hi wr (D k).a (R k).n (R k).P (D k).A (D k).C (R k).Z (D k).F := hx.rn k hlt
      have hyr : OwnS (E k).lo (E k).hi wr (E k).a (R k).n (R k).P (E k).A (E k).C (R k).Z (E k).F := hy.rn k hlt
      generalize R k = r at hrk x0 x1 x2 x3 y0 y1 y2 y3 hxr hyr
      generalize D k = dk at x3 hxr
      generalize E k = ek at y3 hyr
      have HS : Hid (∀ V, Below wr.heap.size wr V → V.cell? ⟨x, k * 4, none⟩ = some (.int .i64 r.k) ∧ V.cell? ⟨x, k * 4 + 1, none⟩ = some (.int .i64 r.t) ∧ V.cell? ⟨x, k * 4 + 2, none⟩ = some (.int .i64 r.g) ∧ V.cell? ⟨x, k * 4 + 3, none⟩ = some (.slice dk.a r.n dk.c) ∧ V.cell? ⟨y, k * 4, none⟩ = some (.int .i64 r.k) ∧ V.cell? ⟨y, k * 4 + 1, none⟩ = some (.int .i64 r.t) ∧ V.cell? ⟨y, k * 4 + 2, none⟩ = some (.int .i64 r.g) ∧ V.cell? ⟨y, k * 4 + 3, none⟩ = some (.slice ek.a r.n ek.c)) := fun V hV =>
        ⟨cellUp hV x0, cellUp hV x1, cellUp hV x2, cellUp hV x3, cellUp hV y0, cellUp hV y1, cellUp hV y2, cellUp hV y3⟩
      have HX : Hid (OwnS dk.lo dk.hi wr dk.a r.n r.P dk.A dk.C r.Z dk.F) := hxr
      have HY : Hid (OwnS ek.lo ek.hi wr ek.a r.n r.P ek.A ek.C r.Z ek.F) := hyr
      clear hxr hyr
      go_wp2_with fail
      go_region_held (fun V => Below wr.heap.size wr V ∧ V.cell? ⟨x, k * 4, none⟩ = some (.int .i64 r.k) ∧ V.cell? ⟨x, k * 4 + 1, none⟩ = some (.int .i64 r.t) ∧ V.cell? ⟨x, k * 4 + 2, none⟩ = some (.int .i64 r.g) ∧ V.cell? ⟨x, k * 4 + 3, none⟩ = some (.slice dk.a r.n dk.c) ∧ V.cell? ⟨y, k * 4, none⟩ = some (.int .i64 r.k) ∧ V.cell? ⟨y, k * 4 + 1, none⟩ = some (.int .i64 r.t) ∧ V.cell? ⟨y, k * 4 + 2, none⟩ = some (.int .i64 r.g) ∧ V.cell? ⟨y, k * 4 + 3, none⟩ = some (.slice ek.a r.n ek.c)) (first | exact eqKeepD HS.out (by assumption) | exact eqKeep HS.out (Below.refl _ _) (by go_grown)) (first | (go_at_call 34; refine (eqRecord_sameS r.k r.t r.g dk.a ek.a r.n dk.c ek.c r.P dk.A ek.A dk.C ek.C r.Z dk.F ek.F _ _ _ _ _ hrk (HX.out.below (by first | assumption | go_grown)) (HY.out.below (by first | assumption | go_grown))).mono ?_; rintro e w' ⟨rfl, hb⟩))
      rename_i hV
      have g : Below w.heap.size w w' := g.trans (hV.1.mono g.size)
      have hx := hx.below hV.1
      have hy := hy.below hV.1
      clear hV x0 x1 x2 x3 y0 y1 y2 y3 HX HY HS hb
      go_wp2_with fail
      go_roundw
      case rel => exact ⟨k + 1, by omega, by go_num, g, hx, hy⟩
      case measure => simp [intOf]; omega
    · go_wp2_with fail
      go_ret
      exact ⟨rfl, g⟩

set_option maxHeartbeats 2000000 in
theorem markRecordS_S (a : Option Addr) (n c : Nat) (lo hi : Nat) (R : Nat → Rc) (D : Nat → Ad) (k : Int) (w : World) (hm : tookR R n ≤ 8000000) (hn : n ≤ 1048576) (hr : ∀ i, i < n → (R i).n + took (R i).Z (R i).n ≤ 1048576) (hk0 : 0 ≤ k) (hk1 : k ≤ 1000000) (h : OwnRS lo hi w a n R D) :
    Calls Try.prog 65 #[.slice a n c, .int .i64 k] w fun e w' => e = .returned (.int .i64 (rmk R k n)) ∧ Turned lo hi w w' ∧ OwnRS lo hi w' a n (mR R k) D := by
  by_cases h0 : n = 0
  · subst h0
    go_enter Try.func65, Try.ntmps65
    go_wp2_with fail
    go_rounds 1
    go_ret
    exact ⟨by simp [rmk, tookR], Turned.refl _ _ _, .inl rfl⟩
  obtain ⟨b, rfl, h'⟩ := h.resolve_left h0
  have HR : Hid (∀ i, i < n → (R i).n + took (R i).Z (R i).n ≤ 1048576) := hr
  have hmk : Hid (∀ i, i ≤ n → 0 ≤ rmk R k i ∧ rmk R k i ≤ 9000000) := fun i hi => by have := tookR_mono R i n hi; unfold rmk; omega
  clear hr
  go_enter Try.func65, Try.ntmps65
  go_wp2_with fail
  go_loopw [5, 1] (fun i kk wr => ∃ j : Nat, j ≤ n ∧ i = .int .i64 j ∧ kk = .int .i64 (rmk R k j) ∧ Turned lo hi w wr ∧ OwnR lo hi wr b n (fun i => if i < j then mR R k i else R i) D) (fun i _ _ => n - (intOf i).toNat)
  case atStart => exact ⟨0, Nat.zero_le _, rfl, by simp [rmk, tookR], Turned.refl _ _ _, h'.congr (fun i _ => by simp)⟩
  case round =>
    obtain ⟨j, hj, rfl, rfl, ht, hO⟩ := hrel
    clear h h'
    by_cases hlt : j < n
    · have hjn : (j : Int) < (n : Int) := by omega
      obtain ⟨kk, hkk⟩ : ∃ kk, kk = rmk R k j := ⟨_, rfl⟩
      have hb1 := hmk.out j (by omega)
      have hrj := HR.out j hlt
      rw [← hkk] at hb1 ⊢
      obtain ⟨hb1, hb2⟩ := hb1
      have x0 := hO.c0 j hlt
      have x1 := hO.c1 j hlt
      have x2 := hO.c2 j hlt
      have x3 := hO.c3 j hlt
      have f0 := hO.f0 j hlt
      have f1 := hO.f1 j hlt
      have f2 := hO.f2 j hlt
      simp only [Nat.lt_irrefl, if_false] at x0 x1 x2 x3
      have hO1 := hO.set3 hlt kk (kk + 1) (kk + 1 + 1)
      have ht1 := ((ht.setCell (p := ⟨b, j * 4, none⟩) hO.l0 hO.h0 (.int .i64 kk)).setCell (p := ⟨b, j * 4 + 1, none⟩) hO.l0 hO.h0 (.int .i64 (kk + 1))).setCell (p := ⟨b, j * 4 + 2, none⟩) hO.l0 hO.h0 (.int .i64 (kk + 1 + 1))
      have HK : Hid (kk = rmk R k j) := hkk
      clear hkk
      go_upto_region 10 with (fail)
      have y3 := hO1.c3 j hlt
      have hrn := hO1.rn j hlt
      have hfr := hO1.fr j hlt
      clear x0 x1 x2 x3 f0 f1 f2 hO ht
      generalize ((wr.setCell ⟨b, j * 4, none⟩ (.int .i64 kk)).setCell ⟨b, j * 4 + 1, none⟩ (.int .i64 (kk + 1))).setCell ⟨b, j * 4 + 2, none⟩ (.int .i64 (kk + 1 + 1)) = V at hO1 ht1 y3 hrn ⊢
      simp only [if_true, Nat.lt_irrefl, if_false] at y3 hrn
      have hrn : OwnS (D j).lo (D j).hi V (D j).a (R j).n (R j).P (D j).A (D j).C (R j).Z (D j).F := hrn
      have HN : Hid (rmk R k (j + 1) = mk (R j).Z (kk + 1 + 1 + 1) (R j).n) := by show _ = _; rw [rmk_succ, ← HK.out]
      go_wp2_with fail
      refine (markRunS_S (D j).a (R j).n (D j).c (D j).lo (D j).hi (R j).P (D j).A (D j).C (R j).Z (D j).F (kk + 1 + 1 + 1) _ hrj (by omega) (by omega) hrn).mono ?_
      rintro e w2 ⟨rfl, t2, ho2⟩
      have hO2 := hO1.setRuns hlt (r := mR R k j) (by simp only [if_true, mR]; exact HK.out.symm) (by simp only [if_true, mR]; rw [← HK.out]) (by simp only [if_true, mR]; rw [← HK.out]) (by simp only [if_true, Nat.lt_irrefl, if_false, mR]) t2 (by unfold RunsAt mR; rw [← HK.out]; exact ho2)
      have ht2 : Turned lo hi w w2 := ht1.trans ⟨t2.os, t2.tape, t2.output, t2.size, fun i h1 h2 => t2.block i h1 (by omega)⟩
      rw [← HN.out]
      clear hO1 ht1 t2 y3 hrn ho2 hfr
      obtain ⟨kn, hkn⟩ : ∃ kn, kn = rmk R k (j + 1) := ⟨_, rfl⟩
      rw [← hkn]
      have HKn : Hid (kn = rmk R k (j + 1)) := hkn
      clear hkn HN
      go_wp2_with fail
      go_roundw
      case rel =>
        refine ⟨j + 1, by omega, by go_num, ?_, ht2, hO2.congr (fun i hi => ?_)⟩
        · rw [HKn.out]
        · by_cases e : i = j
          · subst e; simp
          · simp only [if_neg e]
            by_cases e2 : i < j
            · rw [if_pos e2, if_pos (by omega)]
            · rw [if_neg e2, if_neg (by omega)]
      case measure => simp [intOf]; omega
    · have e : j = n := by omega
      subst e
      go_wp2_with fail
      go_ret
      exact ⟨rfl, ht, .inr ⟨b, rfl, hO.congr (fun i hi => by rw [if_pos hi])⟩⟩

set_option maxHeartbeats 2000000 in
theorem heldRecordS_S (a : Option Addr) (n c : Nat) (lo hi : Nat) (R : Nat → Rc) (D : Nat → Ad) (k : Int) (w : World) (hm : tookR R n ≤ 8000000) (hn : n ≤ 1048576) (hr : ∀ i, i < n → (R i).n + took (R i).Z (R i).n ≤ 1048576) (hk0 : 0 ≤ k) (hk1 : k ≤ 1000000) (h : OwnRS lo hi w a n (mR R k) D) :
    Calls Try.prog 107 #[.slice a n c, .int .i64 k] w fun e w' => e = .returned (.int .i64 (rmk R k n)) ∧ w' = w := by
  by_cases h0 : n = 0
  · subst h0
    go_enter Try.func107, Try.ntmps107
    go_wp2_with fail
    go_rounds 1
    go_ret
    exact ⟨by simp [rmk, tookR], rfl⟩
  obtain ⟨b, rfl, h'⟩ := h.resolve_left h0
  have HR : Hid (∀ i, i < n → (R i).n + took (R i).Z (R i).n ≤ 1048576) := hr
  have hmk : Hid (∀ i, i ≤ n → 0 ≤ rmk R k i ∧ rmk R k i ≤ 9000000) := fun i hi => by have := tookR_mono R i n hi; unfold rmk; omega
  have HO : Hid (OwnR lo hi w b n (mR R k) D) := h'
  clear hr h h'
  go_enter Try.func107, Try.ntmps107
  go_wp2_with fail
  go_loop [5, 1] (fun i kk => ∃ j : Nat, j ≤ n ∧ i = .int .i64 j ∧ kk = .int .i64 (rmk R k j)) (fun i _ => n - (intOf i).toNat)
  case atStart => exact ⟨0, Nat.zero_le _, rfl, by simp [rmk, tookR]⟩
  case round =>
    obtain ⟨j, hj, rfl, rfl⟩ := hrel
    by_cases hlt : j < n
    · have hjn : (j : Int) < (n : Int) := by omega
      have hb1 := hmk.out j (by omega)
      have hb2 := hmk.out (j + 1) (by omega)
      have hrj := HR.out j hlt
      have hms := rmk_succ R k j
      have x0 := HO.out.c0 j hlt
      have x1 := HO.out.c1 j hlt
      have x2 := HO.out.c2 j hlt
      have x3 := HO.out.c3 j hlt
      have hrn := HO.out.rn j hlt
      obtain ⟨kk, hkk⟩ : ∃ kk, kk = rmk R k j := ⟨_, rfl⟩
      have e0 : (mR R k j).k = kk := hkk.symm
      have e1 : (mR R k j).t = kk + 1 := by rw [hkk]; rfl
      have e2 : (mR R k j).g = kk + 1 + 1 := by rw [hkk]; rfl
      have e3 : (mR R k j).n = (R j).n := rfl
      have hrn : OwnS (D j).lo (D j).hi w (D j).a (R j).n (mk (R j).Z (kk + 1 + 1 + 1)) (D j).A (D j).C (mZ (R j).Z (kk + 1 + 1 + 1)) (D j).F := by rw [hkk]; exact hrn
      rw [e0] at x0
      rw [e1] at x1
      rw [e2] at x2
      rw [e3] at x3
      rw [← hkk] at hb1 hms ⊢
      rw [hms] at hb2
      have HN : Hid (rmk R k (j + 1) = mk (R j).Z (kk + 1 + 1 + 1) (R j).n) := hms
      have hpos : ¬ (mk (R j).Z (kk + 1 + 1 + 1) (R j).n < 0) := by omega
      obtain ⟨hb1, hb3⟩ := hb1
      have HRn : Hid (OwnS (D j).lo (D j).hi w (D j).a (R j).n (mk (R j).Z (kk + 1 + 1 + 1)) (D j).A (D j).C (mZ (R j).Z (kk + 1 + 1 + 1)) (D j).F) := hrn
      clear hkk hms e0 e1 e2 e3 hrn hb2
      go_wp2_with fail
      refine (heldRunS_S (D j).a (R j).n (D j).c (D j).lo (D j).hi (D j).A (D j).C (R j).Z (D j).F (kk + 1 + 1 + 1) _ hrj (by omega) (by omega) HRn.out).mono ?_
      rintro e w2 ⟨rfl, hw⟩
      subst w2
      go_wp2_with fail
      go_round
      case rel => exact ⟨j + 1, by omega, by go_num, by rw [HN.out]⟩
      case measure => simp [intOf]; omega
    · have e : j = n := by omega
      subst e
      go_wp2_with fail
      go_ret
      exact ⟨rfl, rfl⟩

set_option maxHeartbeats 1000000 in
theorem eqRecordsResult_same (q u : Int) (a b : Option Addr) (n c d : Nat) (R : Nat → Rc) (D E : Nat → Ad) (la ua lb ub : Nat) (w : World) (hn : n ≤ 1048576) (hr : ∀ i, i < n → (R i).n + took (R i).Z (R i).n ≤ 1048576) (hx : OwnRS la ua w a n R D) (hy : OwnRS lb ub w b n R E) :
    Calls Try.prog 62 #[.agg #[.int .i64 q, .int .i64 u, .slice a n c], .agg #[.int .i64 q, .int .i64 u, .slice b n d]] w fun e w' => e = .returned (.bool true) ∧ Below w.heap.size w w' := by
  have HX : Hid (OwnRS la ua w a n R D) := hx
  have HY : Hid (OwnRS lb ub w b n R E) := hy
  have HR : Hid (∀ i, i < n → (R i).n + took (R i).Z (R i).n ≤ 1048576) := hr
  clear hx hy hr
  go_enter Try.func62, Try.ntmps62
  go_wp2_with fail
  refine (eqRecordS_same a b n c d R D E la ua lb ub _ hn HR.out (HX.out.below (by go_grown)) (HY.out.below (by go_grown))).mono ?_
  rintro e w' ⟨rfl, hb⟩
  have g : Below w.heap.size w w' := Below.trans (by go_grown) (hb.mono (by simp; omega))
  clear hb
  go_wp2_with fail
  go_ret
  exact ⟨rfl, g⟩

set_option maxHeartbeats 1000000 in
theorem markRecordsResult_any (q u : Int) (a : Option Addr) (n c : Nat) (lo hi : Nat) (R : Nat → Rc) (D : Nat → Ad) (k : Int) (w : World) (hm : tookR R n ≤ 8000000) (hn : n ≤ 1048576) (hr : ∀ i, i < n → (R i).n + took (R i).Z (R i).n ≤ 1048576) (hk0 : 0 ≤ k) (hk1 : k ≤ 1000000) (h : OwnRS lo hi w a n R D) :
    Calls Try.prog 63 #[.agg #[.int .i64 q, .int .i64 u, .slice a n c], .int .i64 k] w fun e w' => e = .returned (.int .i64 (rmk R k n)) ∧ Turned lo hi w w' ∧ OwnRS lo hi w' a n (mR R k) D := by
  have HX : Hid (OwnRS lo hi w a n R D) := h
  have HR : Hid (∀ i, i < n → (R i).n + took (R i).Z (R i).n ≤ 1048576) := hr
  clear h hr
  go_enter Try.func63, Try.ntmps63
  go_wp2_with fail
  refine (markRecordS_S a n c lo hi R D k _ hm hn HR.out hk0 hk1 (HX.out.below (by go_grown))).mono ?_
  rintro e w' ⟨rfl, ht, ho⟩
  have h1 : Turned lo hi w w' := Turned.trans (Turned.ofBelow (by go_grown)) ht
  clear ht
  go_wp2_with fail
  go_ret
  exact ⟨rfl, h1, ho⟩

set_option maxHeartbeats 1000000 in
theorem heldRecordsResult_any (q u : Int) (a : Option Addr) (n c : Nat) (lo hi : Nat) (R : Nat → Rc) (D : Nat → Ad) (k : Int) (w : World) (hm : tookR R n ≤ 8000000) (hn : n ≤ 1048576) (hr : ∀ i, i < n → (R i).n + took (R i).Z (R i).n ≤ 1048576) (hk0 : 0 ≤ k) (hk1 : k ≤ 1000000) (h : OwnRS lo hi w a n (mR R k) D) :
    Calls Try.prog 64 #[.agg #[.int .i64 q, .int .i64 u, .slice a n c], .int .i64 k] w fun e w' => e = .returned (.int .i64 (rmk R k n)) ∧ Below w.heap.size w w' := by
  have HX : Hid (OwnRS lo hi w a n (mR R k) D) := h
  have HR : Hid (∀ i, i < n → (R i).n + took (R i).Z (R i).n ≤ 1048576) := hr
  have hpos : ¬ (rmk R k n < 0) := by unfold rmk; omega
  clear h hr
  go_enter Try.func64, Try.ntmps64
  go_wp2_with fail
  refine (heldRecordS_S a n c lo hi R D k _ hm hn HR.out hk0 hk1 (HX.out.below (by go_grown))).mono ?_
  rintro e w' ⟨rfl, hw'⟩
  subst w'
  go_wp2_with fail
  go_ret
  exact ⟨rfl, by go_grown⟩

end Go.Proofs.Ytcjkjenebnodbaa

/-
  What came in, opened: a slice of records; szRecordS, toRecordS.
-/
namespace Go.Proofs.Ytcjkjenebnodbaa
open Go.ChangeShapes Go.WideShapes Go.RowKit
set_option linter.unusedVariables false

/-- The slice that begins at a reads as n records. -/
def RecsRead (w : World) (a : Option Addr) (n : Nat) (R : Nat → Rc) (D : Nat → Ad) : Prop :=
  n = 0 ∨ ∃ b off, a = some ⟨b, off, none⟩ ∧ ∀ i, i < n → w.cell? ⟨b, off + i * 4, none⟩ = some (.int .i64 (R i).k) ∧ w.cell? ⟨b, off + i * 4 + 1, none⟩ = some (.int .i64 (R i).t) ∧ w.cell? ⟨b, off + i * 4 + 2, none⟩ = some (.int .i64 (R i).g) ∧ w.cell? ⟨b, off + i * 4 + 3, none⟩ = some (.slice (D i).a (R i).n (D i).c) ∧ RunsRead w (D i).a (R i).n (R i).P (D i).A (D i).C (R i).Z
theorem RecsRead.below {w w' : World} {a : Option Addr} {n : Nat} {R : Nat → Rc} {D : Nat → Ad} (h : RecsRead w a n R D) {B : Nat} (hb : Below B w w') (hB : w.heap.size ≤ B) : RecsRead w' a n R D := by
  have up : ∀ (p : Addr) (v : Value), w.cell? p = some v → w'.cell? p = some v := fun p v h => (hb.cell (Nat.lt_of_lt_of_le (World.block_lt_of_cell? w _ h) hB)).trans h
  rcases h with h | ⟨b, off, ha, hc⟩
  · exact .inl h
  · refine .inr ⟨b, off, ha, fun i hi => ?_⟩
    obtain ⟨h0, h1, h2, h3, h4⟩ := hc i hi
    exact ⟨up _ _ h0, up _ _ h1, up _ _ h2, up _ _ h3, h4.below hb hB⟩
theorem RecsRead.at_ {w : World} {b off n : Nat} {R : Nat → Rc} {D : Nat → Ad} (h : RecsRead w (some ⟨b, off, none⟩) n R D) (i : Nat) (hi : i < n) : w.cell? ⟨b, off + i * 4, none⟩ = some (.int .i64 (R i).k) ∧ w.cell? ⟨b, off + i * 4 + 1, none⟩ = some (.int .i64 (R i).t) ∧ w.cell? ⟨b, off + i * 4 + 2, none⟩ = some (.int .i64 (R i).g) ∧ w.cell? ⟨b, off + i * 4 + 3, none⟩ = some (.slice (D i).a (R i).n (D i).c) ∧ RunsRead w (D i).a (R i).n (R i).P (D i).A (D i).C (R i).Z := by
  rcases h with h | ⟨b', off', e, hc⟩
  · omega
  · simp only [Option.some.injEq, Addr.mk.injEq, and_true] at e
    obtain ⟨rfl, rfl⟩ := e
    exact hc i hi

structure IsRecs (w : World) (a : Option Addr) (len : Nat) (R : Nat → Rc) (D : Nat → Ad) : Prop where
  rd : RecsRead w a len R D
  ln : len ≤ 9223372036854775807
  ir : ∀ i, i < len → IsRuns w (D i).a (R i).n (R i).P (D i).A (D i).C (R i).Z

instance : Inhabited Rc := ⟨⟨0, 0, 0, 0, fun _ => 0, fun _ => []⟩⟩
instance : Inhabited Ad := ⟨⟨none, 0, fun _ => none, fun _ => 0, fun _ => 0, 0, 0⟩⟩
theorem four {α : Type} (xs : List α) (h : xs.length = 4) : ∃ a b c d, xs = [a, b, c, d] := by
  match xs, h with
  | [a, b, c, d], _ => exact ⟨a, b, c, d, rfl⟩

theorem open_recs {H : Type} {enc : TypeId × Value → H} {W : World} {base : Nat} {held : Bool} {fuel : Nat} {a : Option Addr} {len cap : Nat} {x : DataW H × List MemPlace}
    (h : DataW.trod enc Try.prog W base (fun _ => true) held fuel 68 [.slice a len cap] = some x) : ∃ R D, IsRecs W a len R D := by
  have hml : maxLen = 9223372036854775807 := by decide
  rcases Go.Deep.open_slice Try.underlying68 h with ⟨hcs, _⟩ | ⟨y, l, c, m, n, Dd, Pl, hcs, hb, hl, hm, hmm, _, hx⟩
  · simp only [List.cons.injEq, Value.slice.injEq, and_true] at hcs
    obtain ⟨rfl, rfl, rfl⟩ := hcs
    exact ⟨fun _ => ⟨0, 0, 0, 0, fun _ => 0, fun _ => []⟩, fun _ => ⟨none, 0, fun _ => none, fun _ => 0, fun _ => 0, 0, 0⟩, .inl rfl, by omega, fun i hi => by omega⟩
  · simp only [List.cons.injEq, Value.slice.injEq, and_true] at hcs
    obtain ⟨rfl, rfl, rfl⟩ := hcs
    simp only [if_true] at hmm
    subst hmm
    have ce : Try.prog.cellsOf 50 = 4 := by kernel_rfl
    have each : ∀ i, i < len → ∃ q : Rc × Ad, W.cell? (y.add (i * 4)) = some (.int .i64 q.1.k) ∧ W.cell? (y.add (i * 4 + 1)) = some (.int .i64 q.1.t) ∧ W.cell? (y.add (i * 4 + 2)) = some (.int .i64 q.1.g) ∧ W.cell? (y.add (i * 4 + 3)) = some (.slice q.2.a q.1.n q.2.c) ∧ IsRuns W q.2.a q.1.n q.1.P q.2.A q.2.C q.1.Z := by
      intro i hi
      obtain ⟨cs', h1, h2⟩ := hx i (by omega)
      rw [ce] at h1
      obtain ⟨_, hlen, hcell⟩ := World.cells?_some h1
      obtain ⟨xs, k, hk, hxy, _, hxl, hf⟩ := DataW.trod_struct Try.underlying50 h2
      have hx4 : xs.length = 4 := hxl
      clear hxl
      obtain ⟨y0, y1, y2, y3, rfl⟩ := four xs hx4
      obtain ⟨v0, v1, v2, v3, rfl⟩ := four cs' hlen
      · skip
        have g0 := hf 0 _ rfl
        have g1 := hf 1 _ rfl
        have g2 := hf 2 _ rfl
        have g3 := hf 3 _ rfl
        have c2 : Try.prog.cellsOf 2 = 1 := by kernel_rfl
        have c48 : Try.prog.cellsOf 48 = 1 := by kernel_rfl
        simp [c2, c48] at g0 g1 g2 g3
        obtain ⟨t0, e0, _, _⟩ := DataW.trod_int Try.underlying2 g0
        obtain ⟨t1, e1, _, _⟩ := DataW.trod_int Try.underlying2 g1
        obtain ⟨t2, e2, _, _⟩ := DataW.trod_int Try.underlying2 g2
        obtain ⟨ar, lr, cr, P, A, C, Z, e3, hr⟩ := open_runs_any g3
        simp only [List.cons.injEq, and_true] at e0 e1 e2 e3
        subst e0 e1 e2 e3
        have k0 := hcell 0 (by omega)
        have k1 := hcell 1 (by omega)
        have k2 := hcell 2 (by omega)
        have k3 := hcell 3 (by omega)
        rw [Go.Deep.add_add] at k0 k1 k2 k3
        exact ⟨(⟨t0, t1, t2, lr, P, Z⟩, ⟨ar, cr, A, C, fun _ => 0, 0, 0⟩), by simpa using k0, by simpa using k1, by simpa using k2, by simpa using k3, hr⟩
    obtain ⟨q, hq⟩ := Go.Deep.choose_lt each
    refine ⟨fun i => (q i).1, fun i => (q i).2, ?_, by omega, fun i hi => (hq i hi).2.2.2.2⟩
    by_cases h0 : len = 0
    · exact .inl h0
    · obtain ⟨b, off, spot⟩ := y
      have hc0 := (hq 0 (by omega)).1
      have hspot : spot = none := by simpa [Addr.add] using World.cell?_spot hc0
      subst hspot
      have ea : ∀ i, (⟨b, off, none⟩ : Addr).add i = ⟨b, off + i, none⟩ := by intro i; unfold Addr.add; split <;> simp_all
      refine .inr ⟨b, off, rfl, fun i hi => ?_⟩
      obtain ⟨q0, q1, q2, q3, q4⟩ := hq i hi
      rw [ea] at q0 q1 q2 q3
      exact ⟨q0, q1, q2, q3, q4.rd⟩

/-- How much n records take. -/
def szR (R : Nat → Rc) : Nat → Nat
  | 0 => 0
  | i + 1 => szR R i + (R i).n + took (R i).Z (R i).n
theorem szR_mono (R : Nat → Rc) (k n : Nat) (h : k ≤ n) : szR R k ≤ szR R n := by
  induction n with
  | zero => have : k = 0 := by omega
            subst this; exact Nat.le_refl _
  | succ n ih =>
    by_cases e : k = n + 1
    · subst e; exact Nat.le_refl _
    · have := ih (by omega); simp only [szR]; omega
theorem szR_one (R : Nat → Rc) (k n : Nat) (h : k < n) : (R k).n + took (R k).Z (R k).n ≤ szR R n := by
  have := szR_mono R (k + 1) n h
  simp only [szR] at this
  omega
theorem tookR_sz (R : Nat → Rc) : ∀ n, tookR R n = 3 * n + szR R n
  | 0 => rfl
  | n + 1 => by have := tookR_sz R n; simp only [tookR, szR]; omega

set_option maxHeartbeats 1000000 in
theorem szRecordS_any (a : Option Addr) (n c : Nat) (R : Nat → Rc) (D : Nat → Ad) (k : Int) (w : World) (hk0 : 0 ≤ k) (hk1 : k ≤ 1048576) (hi : IsRecs w a n R D) :
    Calls Try.prog 49 #[.slice a n c, .int .i64 k] w fun e w' => (∃ r : Int, e = .returned (.int .i64 r) ∧ (r = -1 ∨ (0 ≤ r ∧ r = k - n - szR R n))) ∧ Below w.heap.size w w' := by
  have hm := hi.ln
  have HI : Hid (IsRecs w a n R D) := hi
  clear hi
  by_cases h : k < n
  · have d : (k - (n : Int) < 0) := by omega
    go_enter Try.func49, Try.ntmps49
    go_wp2_with fail
    go_ret
    exact ⟨⟨-1, rfl, .inl rfl⟩, Below.refl _ _⟩
  · have d : ¬ (k - (n : Int) < 0) := by omega
    by_cases h0 : n = 0
    · subst h0
      go_enter Try.func49, Try.ntmps49
      go_wp2_with fail
      go_rounds 1
      go_ret
      exact ⟨⟨k, by simp, .inr ⟨hk0, by simp [szR]⟩⟩, Below.refl _ _⟩
    obtain ⟨b, off, rfl⟩ : ∃ b off, a = some ⟨b, off, none⟩ := by
      rcases HI.out.rd with hr | ⟨b, off, e, _⟩
      · exact absurd hr h0
      · exact ⟨b, off, e⟩
    go_enter Try.func49, Try.ntmps49
    go_wp2_with fail
    go_loopw [5, 1] (fun i l wr => ∃ j : Nat, j ≤ n ∧ i = .int .i64 j ∧ l = .int .i64 (k - n - szR R j) ∧ n + szR R j ≤ k ∧ Below w.heap.size w wr) (fun i _ _ => n - (intOf i).toNat)
    case atStart => exact ⟨0, Nat.zero_le _, rfl, by simp [szR], by simp [szR]; omega, Below.refl _ _⟩
    case round =>
      obtain ⟨j, hj, rfl, rfl, hl, g⟩ := hrel
      by_cases hlt : j < n
      · obtain ⟨e0, e1, e2, e3, hrd⟩ := (HI.out.rd.below g (Nat.le_refl _)).at_ j hlt
        have hln := (HI.out.ir j hlt).ln
        have HZ : Hid (∀ i, i < (R j).n → ((R j).Z i).length ≤ 9223372036854775807) := (HI.out.ir j hlt).zl
        have hjn : (j : Int) < (n : Int) := by omega
        have HS : Hid (szR R (j + 1) = szR R j + (R j).n + took (R j).Z (R j).n) := rfl
        have HRd : Hid (RunsRead wr (D j).a (R j).n (R j).P (D j).A (D j).C (R j).Z) := hrd
        clear hrd
        go_wp2_with fail
        refine (szRecord_gen (R j).k (R j).t (R j).g (D j).a (R j).n (D j).c (R j).P (D j).A (D j).C (R j).Z _ _ (by omega) (by omega) hln HZ.out HRd.out).mono ?_
        rintro e w' ⟨⟨r, rfl, hr1⟩, g'⟩
        have g : Below w.heap.size w w' := g.trans (g'.mono g.size)
        clear g' e0 e1 e2 e3
        rcases hr1 with rfl | ⟨hr0, hr1⟩
        · go_wp2_with fail
          go_ret
          exact ⟨⟨-1, rfl, .inl rfl⟩, g⟩
        · have HR : Hid (r = k - n - szR R (j + 1)) := by show _ = _; rw [HS.out, hr1]; omega
          have hl' : n + szR R (j + 1) ≤ k := by have := HR.out; omega
          have dr : ¬ (r < 0) := by omega
          clear hr1
          go_wp2_with fail
          go_roundw
          case rel => exact ⟨j + 1, by omega, by go_num, by rw [← HR.out], hl', g⟩
          case measure => simp [intOf]; omega
      · have e : j = n := by omega
        subst e
        go_wp2_with fail
        go_ret
        exact ⟨⟨_, rfl, .inr ⟨by omega, rfl⟩⟩, g⟩

end Go.Proofs.Ytcjkjenebnodbaa
