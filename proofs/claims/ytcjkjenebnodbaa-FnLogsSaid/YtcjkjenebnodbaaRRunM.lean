/-
  Runs marked and looked through: markRunS, heldRunS; RunsResult.
-/
import Derived.Test.YtcjkjenebnodbaaRRunC
import Derived.Test.YtcjkjenebnodbaaRBy
import Derived.Deep.SlicePairs
import Derived.OpenShut
import Derived.ProofKit

namespace Go.Proofs.Ytcjkjenebnodbaa
open Go.RowKit
set_option linter.unusedVariables false

section
variable {lo hi b n : Nat} {w w' : World} {P P' : Nat → Int} {A : Nat → Option Addr} {C : Nat → Nat} {Z Z' : Nat → List Int} {F : Nat → Nat}

theorem Own.congr (h : Own lo hi w b n P A C Z F) (hP : ∀ i, i < n → P i = P' i) (hZ : ∀ i, i < n → Z i = Z' i) : Own lo hi w b n P' A C Z' F :=
  ⟨h.l0, h.h0, fun i hi => by rw [← hP i hi]; exact h.c0 i hi, fun i hi => by rw [← hZ i hi]; exact h.c1 i hi, h.f0, h.f1, fun i hi => by rw [← hZ i hi]; exact h.by' i hi, fun i hi e => h.fr i hi (by rw [hZ i hi]; exact e), fun i j hi hj hn e1 e2 => h.ne i j hi hj hn (by rw [hZ i hi]; exact e1) (by rw [hZ j hj]; exact e2)⟩

theorem Own.lt (h : Own lo hi w b n P A C Z F) (h0 : 0 < n) : b < w.heap.size := World.block_lt_of_cell? w _ (h.c0 0 h0)

theorem BytesIn.setCellE {l u : Nat} {a : Option Addr} {zs : List Int} (h : BytesIn l u w a zs) {p : Addr} (hp : zs ≠ [] → p.block < l ∨ u ≤ p.block) (v : Value) : BytesIn l u (w.setCell p v) a zs := by
  by_cases e : zs = []
  · exact .inl e
  · exact h.turned (lo := p.block) (hi := p.block + 1) ((Turned.refl _ _ _).setCell (Nat.le_refl _) (Nat.lt_succ_self _) v) (by have := hp e; omega)

/-- The place of the j-th run is turned. -/
theorem Own.setAt (h : Own lo hi w b n P A C Z F) {j : Nat} (hj : j < n) (v : Int) : Own lo hi (w.setCell ⟨b, j * 2, none⟩ (.int .i64 v)) b n (fun i => if i = j then v else P i) A C Z F := by
  refine ⟨h.l0, h.h0, fun i hi => ?_, fun i hi => ?_, fun i hi => by rw [World.frozen?_setCell]; exact h.f0 i hi, fun i hi => by rw [World.frozen?_setCell]; exact h.f1 i hi, fun i hi => (h.by' i hi).setCellE (fun e => by have := h.fr i hi e; simp only; omega) _, h.fr, h.ne⟩
  · by_cases e : i = j
    · subst e
      simp only [if_true]
      exact World.cell?_setCell_same _ _ _ (h.c0 i hi)
    · simp only [if_neg e]
      rw [World.cell?_setCell_other _ _ _ _ (fun e2 => e (by have := congrArg Addr.off e2; simp at this; omega))]
      exact h.c0 i hi
  · rw [World.cell?_setCell_other _ _ _ _ (fun e2 => by have := congrArg Addr.off e2; simp at this; omega)]
    exact h.c1 i hi

/-- The bytes of the j-th run are turned. -/
theorem Own.setBytes (h : Own lo hi w b n P A C Z F) {j : Nat} (hj : j < n) (hne : Z j ≠ []) (ht : Turned (F j) (F j + 1) w w') {ys : List Int} (hl : ys.length = (Z j).length) (hy : BytesIn (F j) (F j + 1) w' (A j) ys) : Own lo hi w' b n P A C (fun i => if i = j then ys else Z i) F := by
  have hfj := h.fr j hj hne
  have hyn : ys ≠ [] := fun e => hne (by rw [e] at hl; exact List.eq_nil_of_length_eq_zero hl.symm)
  refine ⟨h.l0, h.h0, fun i hi => ht.cell (h.c0 i hi) (by simp only; omega), fun i hi => ?_, fun i hi => (ht.frozen (h.c0 i hi) (by simp only; omega)).trans (h.f0 i hi), fun i hi => (ht.frozen (h.c1 i hi) (by simp only; omega)).trans (h.f1 i hi), fun i hi => ?_, fun i hi e => ?_, fun i k hi hk hn e1 e2 => ?_⟩
  · rw [ht.cell (h.c1 i hi) (by simp only; omega)]
    by_cases e : i = j
    · subst e
      simp only [if_true]
      rw [hl]
    · simp only [if_neg e]
  · by_cases e : i = j
    · subst e
      simp only [if_true]
      exact hy
    · simp only [if_neg e]
      exact (h.by' i hi).turnedE ht (fun e2 => by have := h.ne i j hi hj e e2 hne; omega)
  · by_cases e3 : i = j
    · subst e3; exact hfj
    · simp only [if_neg e3] at e; exact h.fr i hi e
  · refine h.ne i k hi hk hn ?_ ?_
    · by_cases e3 : i = j
      · subst e3; exact hne
      · simpa only [if_neg e3] using e1
    · by_cases e3 : k = j
      · subst e3; exact hne
      · simpa only [if_neg e3] using e2
end

/-- The number with which the i-th run's marks begin. -/
def mk (Z : Nat → List Int) (k : Int) (i : Nat) : Int := k + i + took Z i
theorem mk_succ (Z : Nat → List Int) (k : Int) (i : Nat) : mk Z k (i + 1) = mk Z k i + 1 + (Z i).length := by unfold mk; simp only [took]; omega
/-- The bytes of the i-th run, marked. -/
def mZ (Z : Nat → List Int) (k : Int) (i : Nat) : List Int := marked (mk Z k i + 1) (Z i).length (Z i)
theorem mZ_len (Z : Nat → List Int) (k : Int) (i : Nat) : (mZ Z k i).length = (Z i).length := marked_length _ _ _ (Nat.le_refl _)

set_option maxHeartbeats 1000000 in
theorem markRunS_own (b n c : Nat) (lo hi : Nat) (P : Nat → Int) (A : Nat → Option Addr) (C : Nat → Nat) (Z : Nat → List Int) (F : Nat → Nat) (k : Int) (w : World) (hm : n + took Z n ≤ 1048576) (hk0 : 0 ≤ k) (hk1 : k ≤ 10000000) (h : Own lo hi w b n P A C Z F) :
    Calls Try.prog 97 #[.slice (some ⟨b, 0, none⟩) n c, .int .i64 k] w fun e w' => e = .returned (.int .i64 (mk Z k n)) ∧ Turned lo hi w w' ∧ Own lo hi w' b n (mk Z k) A C (mZ Z k) F := by
  have hzl : ∀ i, i < n → (Z i).length ≤ 140737488351232 := fun i hi => by have := took_one Z i n hi; omega
  have hmk : ∀ i, i ≤ n → 0 ≤ mk Z k i ∧ mk Z k i ≤ 20000000 := fun i hi => by have := took_mono Z i n hi; unfold mk; omega
  go_enter Try.func97, Try.ntmps97
  go_wp2_with fail
  go_loopw [5, 1] (fun i kk wr => ∃ j : Nat, j ≤ n ∧ i = .int .i64 j ∧ kk = .int .i64 (mk Z k j) ∧ Turned lo hi w wr ∧ Own lo hi wr b n (fun i => if i < j then mk Z k i else P i) A C (fun i => if i < j then mZ Z k i else Z i) F) (fun i _ _ => n - (intOf i).toNat)
  case atStart => exact ⟨0, Nat.zero_le _, rfl, by simp [mk, took], Turned.refl _ _ _, h.congr (fun i _ => by simp) (fun i _ => by simp)⟩
  case round =>
    obtain ⟨j, hj, rfl, rfl, ht, hO⟩ := hrel
    clear h
    by_cases hlt : j < n
    · have hjn : (j : Int) < (n : Int) := by omega
      obtain ⟨kk, hkk⟩ : ∃ kk, kk = mk Z k j := ⟨_, rfl⟩
      have hb1 := hmk j (by omega)
      rw [← hkk] at hb1 ⊢
      have x0 := hO.c0 j hlt
      have y0 := hO.f0 j hlt
      have x1 := hO.c1 j hlt
      simp only [Nat.lt_irrefl, if_false] at x0 x1
      have hO1 := hO.setAt hlt kk
      have ht1 := ht.setCell (p := ⟨b, j * 2, none⟩) hO.l0 hO.h0 (.int .i64 kk)
      obtain ⟨hb1, hb2⟩ := hb1
      have HK : Hid (kk = mk Z k j) := hkk
      clear hkk
      go_upto_region 5 with (fail)
      have x2 := hO1.c1 j hlt
      simp only [Nat.lt_irrefl, if_false] at x2
      clear x0 y0 x1 hO ht
      generalize wr.setCell ⟨b, j * 2, none⟩ (.int .i64 kk) = V at hO1 ht1 x2 ⊢
      have hbz := hO1.by' j hlt
      simp only [Nat.lt_irrefl, if_false] at hbz
      by_cases hne : Z j = []
      · have hl0 : (Z j).length = 0 := by rw [hne]; rfl
        rw [hl0] at x2
        have hbz0 : BytesIn 0 0 V (A j) [] := .inl rfl
        go_wp2_with fail
        refine (markByteS_any (A j) 0 0 [] 0 (C j) (kk + 1) _ rfl (by omega) (by omega) (by omega) hbz0).mono ?_
        rintro e w2 ⟨rfl, t2, _⟩
        have hO2 := hO1.turned t2 (.inr (Nat.zero_le _))
        have ht2 : Turned lo hi w w2 := ht1.trans ⟨t2.os, t2.tape, t2.output, t2.size, fun i h1 h2 => t2.block i h1 (by omega)⟩
        have HN : Hid (mk Z k (j + 1) = kk + 1 + ((0 : Nat) : Int)) := by show _ = _; rw [mk_succ, hl0, ← HK.out]
        clear hO1 ht1 t2 x2 hbz
        go_wp2_with fail
        go_roundw
        case rel =>
          refine ⟨j + 1, by omega, by go_num, by rw [HN.out]; simp, ht2, hO2.congr (fun i hi => ?_) (fun i hi => ?_)⟩
          · by_cases e : i = j
            · subst e; simp [HK.out]
            · simp only [if_neg e]
              by_cases e2 : i < j
              · rw [if_pos e2, if_pos (by omega)]
              · rw [if_neg e2, if_neg (by omega)]
          · by_cases e : i = j
            · subst e; simp [mZ, hne, marked]
            · by_cases e2 : i < j
              · rw [if_pos e2, if_pos (by omega)]
              · rw [if_neg e2, if_neg (by omega)]
        case measure => simp [intOf]; omega
      · have hzj := hzl j hlt
        go_wp2_with fail
        refine (markByteS_any (A j) _ _ (Z j) (Z j).length (C j) (kk + 1) _ rfl hzj (by omega) (by omega) hbz).mono ?_
        rintro e w2 ⟨rfl, t2, hy2⟩
        have hO2 := hO1.setBytes hlt (by simp only [Nat.lt_irrefl, if_false]; exact hne) t2 (ys := mZ Z k j) (by simp only [Nat.lt_irrefl, if_false]; exact mZ_len Z k j) (by unfold mZ; rw [← HK.out]; exact hy2)
        have hfj := hO1.fr j hlt (by simp only [Nat.lt_irrefl, if_false]; exact hne)
        have ht2 : Turned lo hi w w2 := ht1.trans ⟨t2.os, t2.tape, t2.output, t2.size, fun i h1 h2 => t2.block i h1 (by omega)⟩
        have HN : Hid (mk Z k (j + 1) = kk + 1 + ((Z j).length : Int)) := by show _ = _; rw [mk_succ, ← HK.out]
        clear hO1 ht1 t2 x2 hbz hy2 hfj
        go_wp2_with fail
        go_roundw
        case rel =>
          refine ⟨j + 1, by omega, by go_num, by rw [HN.out], ht2, hO2.congr (fun i hi => ?_) (fun i hi => ?_)⟩
          · by_cases e : i = j
            · subst e; simp [HK.out]
            · simp only [if_neg e]
              by_cases e2 : i < j
              · rw [if_pos e2, if_pos (by omega)]
              · rw [if_neg e2, if_neg (by omega)]
          · by_cases e : i = j
            · subst e; simp
            · simp only [if_neg e]
              by_cases e2 : i < j
              · rw [if_pos e2, if_pos (by omega)]
              · rw [if_neg e2, if_neg (by omega)]
        case measure => simp [intOf]; omega
    · have e : j = n := by omega
      subst e
      go_wp2_with fail
      go_ret
      exact ⟨rfl, ht, hO.congr (fun i hi => by rw [if_pos hi]) (fun i hi => by rw [if_pos hi])⟩

set_option maxHeartbeats 1000000 in
theorem heldRunS_own (b n c : Nat) (lo hi : Nat) (A : Nat → Option Addr) (C : Nat → Nat) (Z : Nat → List Int) (F : Nat → Nat) (k : Int) (w : World) (hm : n + took Z n ≤ 1048576) (hk0 : 0 ≤ k) (hk1 : k ≤ 10000000) (h : Own lo hi w b n (mk Z k) A C (mZ Z k) F) :
    Calls Try.prog 128 #[.slice (some ⟨b, 0, none⟩) n c, .int .i64 k] w fun e w' => e = .returned (.int .i64 (mk Z k n)) ∧ w' = w := by
  have hzl : ∀ i, i < n → (Z i).length ≤ 140737488351232 := fun i hi => by have := took_one Z i n hi; omega
  have hmk : ∀ i, i ≤ n → 0 ≤ mk Z k i ∧ mk Z k i ≤ 20000000 := fun i hi => by have := took_mono Z i n hi; unfold mk; omega
  go_enter Try.func128, Try.ntmps128
  go_wp2_with fail
  go_loop [5, 1] (fun i kk => ∃ j : Nat, j ≤ n ∧ i = .int .i64 j ∧ kk = .int .i64 (mk Z k j)) (fun i _ => n - (intOf i).toNat)
  case atStart => exact ⟨0, Nat.zero_le _, rfl, by simp [mk, took]⟩
  case round =>
    obtain ⟨j, hj, rfl, rfl⟩ := hrel
    by_cases hlt : j < n
    · have hjn : (j : Int) < (n : Int) := by omega
      have hb1 := hmk j (by omega)
      have hb2 := hmk (j + 1) (by omega)
      have hms := mk_succ Z k j
      have x0 := h.c0 j hlt
      have x1 := h.c1 j hlt
      have hbz := h.by' j hlt
      rw [mZ_len] at x1
      unfold mZ at hbz
      obtain ⟨kk, hkk⟩ : ∃ kk, kk = mk Z k j := ⟨_, rfl⟩
      rw [← hkk] at hb1 hms x0 hbz ⊢
      rw [hms] at hb2
      have HN : Hid (mk Z k (j + 1) = kk + 1 + ((Z j).length : Int)) := hms
      have hzj := hzl j hlt
      have hpos : ¬ (kk + 1 + ((Z j).length : Int) < 0) := by omega
      obtain ⟨hb1, hb3⟩ := hb1
      clear hkk hms
      go_wp2_with fail
      refine (heldByteS_any (A j) _ _ (Z j) (Z j).length (C j) (kk + 1) _ rfl hzj (by omega) (by omega) hbz).mono ?_
      rintro e w2 ⟨rfl, hw⟩
      subst w2
      go_wp2_with fail
      go_round
      case rel => exact ⟨j + 1, by omega, by go_num, by rw [HN.out]⟩
      case measure => simp [intOf]; omega
    · have e : j = n := by omega
      subst e
      go_wp2_with fail
      go_ret
      exact ⟨rfl, rfl⟩

end Go.Proofs.Ytcjkjenebnodbaa

/-
  What came in, opened: bytes and runs.
-/
namespace Go.Proofs.Ytcjkjenebnodbaa
open Go.ChangeShapes Go.WideShapes Go.RowKit
set_option linter.unusedVariables false

/-- A row of integers that came in: nil, or cells as the list says, up to the capacity. -/
def IsRow (k : IntKind) (w : World) (a : Option Addr) (len cap : Nat) (zs : List Int) : Prop :=
  (a = none ∧ len = 0 ∧ cap = 0 ∧ zs = []) ∨
  ∃ x, a = some x ∧ len ≤ cap ∧ cap ≤ maxLen ∧ zs.length = cap ∧ (∀ i, i < zs.length → w.cell? (x.add i) = some (.int k (zs.getD i 0))) ∧ ∀ n ∈ zs, (Lit.int k n).wf = true

theorem isRow_reads {w : World} {a : Option Addr} {len cap : Nat} {zs : List Int} (h : IsRow .u8 w a len cap zs) : (zs.take len).length = len ∧ len ≤ cap ∧ Reads w a (zs.take len) ∧ ∀ z ∈ zs.take len, 0 ≤ z ∧ z ≤ 255 := by
  rcases h with ⟨rfl, rfl, rfl, rfl⟩ | ⟨x, rfl, hl, hm, hz, hc, hw⟩
  · exact ⟨rfl, Nat.le_refl _, .inl rfl, fun z hz => by simp at hz⟩
  · refine ⟨by simp; omega, hl, ?_, fun z hzz => ?_⟩
    · by_cases h0 : len = 0
      · exact .inl (by simp [h0])
      · obtain ⟨b, off, spot⟩ := x
        have hc0 := hc 0 (by omega)
        have hspot : spot = none := by simpa [Addr.add] using World.cell?_spot hc0
        subst hspot
        refine .inr ⟨b, off, rfl, fun i hi => ?_⟩
        have hil : i < len := by simp at hi; omega
        have e := hc i (by omega)
        have ea : (⟨b, off, none⟩ : Addr).add i = ⟨b, off + i, none⟩ := by unfold Addr.add; split <;> simp_all
        rw [ea] at e
        rw [e]
        simp [List.getD, hil]
    · have := hw z (List.mem_of_mem_take hzz)
      exact bounds_u8 this

/-- Runs that came in: what they read as, up to the length. -/
structure IsRuns (w : World) (a : Option Addr) (len : Nat) (P : Nat → Int) (A : Nat → Option Addr) (C : Nat → Nat) (Z : Nat → List Int) : Prop where
  rd : RunsRead w a len P A C Z
  ln : len ≤ 9223372036854775807
  zl : ∀ i, i < len → (Z i).length ≤ 9223372036854775807
  zb : ∀ i, i < len → ∀ z ∈ Z i, 0 ≤ z ∧ z ≤ 255
  pw : ∀ i, i < len → (Lit.int .i64 (P i)).wf = true

theorem open_runs {H : Type} {enc : TypeId × Value → H} {W : World} {base : Nat} {held : Bool} {fuel : Nat} {a : Option Addr} {len cap : Nat} {x : DataW H × List MemPlace}
    (h : DataW.trod enc Try.prog W base (fun _ => true) held fuel 48 [.slice a len cap] = some x) : ∃ P A C Z, IsRuns W a len P A C Z := by
  rcases Go.Deep.open_slice_pairs Try.underlying48 Try.underlying139 (by kernel_rfl) rfl rfl (by kernel_rfl) (by kernel_rfl) h with ⟨hcs, _⟩ | ⟨y, l, c, m, n, V0, V1, D0, D1, P0, P1, hcs, hb, hl, hm, hmm, _, hcell⟩
  · simp only [List.cons.injEq, Value.slice.injEq, and_true] at hcs
    obtain ⟨rfl, rfl, rfl⟩ := hcs
    exact ⟨fun _ => 0, fun _ => none, fun _ => 0, fun _ => [], .inl rfl, by omega, fun i hi => by omega, fun i hi => by omega, fun i hi => by omega⟩
  · simp only [List.cons.injEq, Value.slice.injEq, and_true] at hcs
    obtain ⟨rfl, rfl, rfl⟩ := hcs
    simp only [if_true] at hmm
    subst hmm
    have each : ∀ i, i < len → ∃ q : Int × Option Addr × Nat × List Int, V0 i = .int .i64 q.1 ∧ (Lit.int .i64 q.1).wf = true ∧ V1 i = .slice q.2.1 q.2.2.2.length q.2.2.1 ∧ Reads W q.2.1 q.2.2.2 ∧ q.2.2.2.length ≤ 9223372036854775807 ∧ ∀ z ∈ q.2.2.2, 0 ≤ z ∧ z ≤ 255 := by
      intro i hi
      obtain ⟨_, _, t0, t1⟩ := hcell i (by omega)
      obtain ⟨p, e0, _, hp⟩ := DataW.trod_int Try.underlying2 t0
      simp only [List.cons.injEq, and_true] at e0
      rcases open_ints Try.underlying22 Try.underlying5 (by kernel_rfl) t1 with ⟨hcs, _⟩ | ⟨u, l', c', zs, hcs, _, hl', hm', hz, _, hc', hwz⟩
      · simp only [List.cons.injEq, and_true] at hcs
        exact ⟨(p, none, 0, []), e0, hp, hcs, .inl rfl, by simp, fun z hz => by simp at hz⟩
      · simp only [List.cons.injEq, and_true] at hcs
        have hrow : IsRow .u8 W (some u) l' c' zs := .inr ⟨u, rfl, hl', hm', by simpa using hz, hc', hwz⟩
        obtain ⟨h1, _, h3, h4⟩ := isRow_reads hrow
        have hml : maxLen = 9223372036854775807 := by decide
        exact ⟨(p, some u, c', zs.take l'), e0, hp, by rw [hcs]; simp only [h1], h3, by simp only [h1]; omega, h4⟩
    obtain ⟨q, hq⟩ := Go.Deep.choose_lt each
    refine ⟨fun i => (q i).1, fun i => (q i).2.1, fun i => (q i).2.2.1, fun i => (q i).2.2.2, ?_, ?_, fun i hi => (hq i hi).2.2.2.2.1, fun i hi => (hq i hi).2.2.2.2.2, fun i hi => (hq i hi).2.1⟩
    · by_cases h0 : len = 0
      · exact .inl h0
      · obtain ⟨b, off, spot⟩ := y
        have hc0 := (hcell 0 (by omega)).1
        have hspot : spot = none := by simpa [Addr.add] using World.cell?_spot hc0
        subst hspot
        have ea : ∀ i, (⟨b, off, none⟩ : Addr).add i = ⟨b, off + i, none⟩ := by intro i; unfold Addr.add; split <;> simp_all
        refine .inr ⟨b, off, rfl, fun i hi => ?_⟩
        obtain ⟨c0, c1, _, _⟩ := hcell i (by omega)
        obtain ⟨q0, _, q1, q2, _⟩ := hq i hi
        rw [ea] at c0 c1
        exact ⟨by rw [c0, q0], by rw [← q1, ← c1]; rfl, q2⟩
    · have hml : maxLen = 9223372036854775807 := by decide
      omega

end Go.Proofs.Ytcjkjenebnodbaa

/-
  What came in, opened: runs that stand in a struct.
-/
namespace Go.Proofs.Ytcjkjenebnodbaa
open Go.ChangeShapes Go.WideShapes Go.RowKit

theorem open_runs_any {H : Type} {enc : TypeId × Value → H} {W : World} {base : Nat} {held : Bool} {fuel : Nat} {cs : List Value} {x : DataW H × List MemPlace}
    (h : DataW.trod enc Try.prog W base (fun _ => true) held fuel 48 cs = some x) : ∃ a len cap P A C Z, cs = [.slice a len cap] ∧ IsRuns W a len P A C Z := by
  have hk := h
  rcases Go.Deep.open_slice_pairs Try.underlying48 Try.underlying139 (by kernel_rfl) rfl rfl (by kernel_rfl) (by kernel_rfl) h with ⟨hcs, _⟩ | ⟨y, l, c, m, n, V0, V1, D0, D1, P0, P1, hcs, _⟩
  · subst hcs
    obtain ⟨P, A, C, Z, hr⟩ := open_runs hk
    exact ⟨_, _, _, P, A, C, Z, rfl, hr⟩
  · subst hcs
    obtain ⟨P, A, C, Z, hr⟩ := open_runs hk
    exact ⟨_, _, _, P, A, C, Z, rfl, hr⟩

end Go.Proofs.Ytcjkjenebnodbaa
