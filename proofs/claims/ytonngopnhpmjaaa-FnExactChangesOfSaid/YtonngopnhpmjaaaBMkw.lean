/-
  markRowS once more, with wider bounds.
-/
import Derived.Test.YtonngopnhpmjaaaBMks
import Derived.Test.YtonngopnhpmjaaaBChc

namespace Go.Proofs.Ytonngopnhpmjaaa
open Go.RowKit
set_option linter.unusedVariables false

set_option maxRecDepth 20000 in
set_option maxHeartbeats 4000000 in
theorem markRowS_wide (a : Option Addr) (lo hi : Nat) (rs : List Rw) (n c k : Nat) (w : World) (hn : rs.length = n) (hm : n ≤ 1048576) (hk0 : 1 ≤ k) (hk1 : k ≤ 5000000) (ha : SlIn rwE 4 lo hi w a rs) :
    Calls Try.prog 14 #[.slice a n c, .int .i64 k] w fun e w' => e = .returned (.int .i64 ((k + 4 * n : Nat) : Int)) ∧ Turned lo hi w w' ∧ SlIn rwE 4 lo hi w' a ((List.range n).map (mkR k)) := by
  have HN : Hid (rs.length = n) := hn
  clear hn
  go_enter Try.func14, Try.ntmps14
  go_wp2_with fail
  go_loopw [5, 1] (fun i kk wr => ∃ j : Nat, j ≤ n ∧ i = .int .i64 j ∧ kk = .int .i64 ((k + 4 * j : Nat) : Int) ∧ Turned lo hi w wr ∧ SlIn rwE 4 lo hi wr a (mkL k j rs)) (fun i _ _ => n - (intOf i).toNat)
  case atStart => exact ⟨0, Nat.zero_le _, rfl, rfl, Turned.refl _ _ _, ha⟩
  case round =>
    obtain ⟨j, hj, rfl, rfl, ht, hS⟩ := hrel
    clear ha
    by_cases hlt : j < n
    · obtain ⟨x, hx⟩ := mkL_at (k := k) (rs := rs) (j := j) (by rw [HN.out]; exact hlt)
      have HS : Hid ((mkL k j rs).set j (mkR k j) = mkL k (j + 1) rs) := mkL_set (by rw [HN.out]; exact hlt)
      have hxl : j < (mkL k j rs).length := (List.getElem?_eq_some_iff.1 hx).1
      have hjn : (j : Int) < (n : Int) := by omega
      obtain ⟨kk, hkk⟩ : ∃ kk : Nat, kk = k + 4 * j := ⟨_, rfl⟩
      have HK : Hid (kk = k + 4 * j) := hkk
      have hkb : kk ≤ 10000000 := by omega
      have hk1' : 1 ≤ kk := by omega
      rw [← hkk]
      clear hkk
      obtain ⟨k1, hq1⟩ : ∃ k1 : Nat, k1 = kk + 1 := ⟨_, rfl⟩
      obtain ⟨k2, hq2⟩ : ∃ k2 : Nat, k2 = k1 + 1 := ⟨_, rfl⟩
      obtain ⟨k3, hq3⟩ : ∃ k3 : Nat, k3 = k2 + 1 := ⟨_, rfl⟩
      obtain ⟨k4, hq4⟩ : ∃ k4 : Nat, k4 = k3 + 1 := ⟨_, rfl⟩
      have e1 : (kk : Int) + 1 = (k1 : Nat) := by omega
      have e2 : (k1 : Int) + 1 = (k2 : Nat) := by omega
      have e3 : (k2 : Int) + 1 = (k3 : Nat) := by omega
      have e4 : (k3 : Int) + 1 = (k4 : Nat) := by omega
      have HK4 : Hid (k4 = k + 4 * (j + 1)) := by show _ = _; have := HK.out; omega
      have hk4 : k4 ≤ 11000000 := by omega
      have hk3 : 1 ≤ k3 ∧ k3 ≤ 11000000 := by omega
      have HM : Hid (mkR k j = ⟨(kk : Nat), (k1 : Nat), (k2 : Nat), mtx k3⟩) := by show _ = _; rw [hq3, hq2, hq1, HK.out]; rfl
      clear hq1 hq2 hq3 hq4
      generalize mkL k j rs = xs at hS hx HS hxl
      obtain ⟨b, off, rfl⟩ : ∃ b off, a = some ⟨b, off, none⟩ := by
        rcases hS with rfl | ⟨b, off, e, _⟩
        · simp at hx
        · exact ⟨b, off, e⟩
      obtain ⟨xt, xk, xv, xs0⟩ := x
      obtain ⟨hlo, hhi, ⟨c0, c1, c2, c3⟩, hf⟩ := hS.at4 hx
      have f0 := hf 0 (by omega)
      simp only [Nat.add_zero] at f0
      have S1 := hS.set1 (x' := ⟨(kk : Nat), xk, xv, xs0⟩) (c := 0) (v := .int .i64 (kk : Nat)) hx (by omega) rfl
      have T1 := ht.setCell (p := ⟨b, off + j * 4, none⟩) hlo hhi (.int .i64 (kk : Nat))
      simp only [Nat.add_zero] at S1
      go_upto_region 6 with (fail)
      clear c0 c1 c2 c3 f0 hf hS ht
      generalize wr.setCell ⟨b, off + j * 4, none⟩ (.int .i64 (kk : Nat)) = V1 at S1 T1 ⊢
      have hx1 : (xs.set j ⟨(kk : Nat), xk, xv, xs0⟩)[j]? = some ⟨(kk : Nat), xk, xv, xs0⟩ := List.getElem?_set_self hxl
      obtain ⟨_, _, ⟨c0, c1, c2, c3⟩, hf⟩ := S1.at4 hx1
      have f1 := hf 1 (by omega)
      have S2 := S1.set1 (x' := ⟨(kk : Nat), (k1 : Nat), xv, xs0⟩) (c := 1) (v := .int .i64 (k1 : Nat)) hx1 (by omega) rfl
      have T2 := T1.setCell (p := ⟨b, off + j * 4 + 1, none⟩) hlo hhi (.int .i64 (k1 : Nat))
      rw [List.set_set] at S2
      go_upto_region 8 with (fail)
      clear c0 c1 c2 c3 f1 hf S1 T1 hx1
      generalize V1.setCell ⟨b, off + j * 4 + 1, none⟩ (.int .i64 (k1 : Nat)) = V2 at S2 T2 ⊢
      have hx2 : (xs.set j ⟨(kk : Nat), (k1 : Nat), xv, xs0⟩)[j]? = some ⟨(kk : Nat), (k1 : Nat), xv, xs0⟩ := List.getElem?_set_self hxl
      obtain ⟨_, _, ⟨c0, c1, c2, c3⟩, hf⟩ := S2.at4 hx2
      have f2 := hf 2 (by omega)
      have S3 := S2.set1 (x' := ⟨(kk : Nat), (k1 : Nat), (k2 : Nat), xs0⟩) (c := 2) (v := .int .i64 (k2 : Nat)) hx2 (by omega) rfl
      have T3 := T2.setCell (p := ⟨b, off + j * 4 + 2, none⟩) hlo hhi (.int .i64 (k2 : Nat))
      rw [List.set_set] at S3
      go_upto_region 10 with (fail)
      clear c0 c1 c2 c3 f2 hf S2 T2 hx2
      generalize V2.setCell ⟨b, off + j * 4 + 2, none⟩ (.int .i64 (k2 : Nat)) = V3 at S3 T3 ⊢
      go_wp2_with fail
      refine (markText_any k3 hk3.1 (by omega) _).mono ?_
      rintro e w4 ⟨rfl, g4⟩
      have S3 := S3.below g4
      have T3 := T3.trans (Turned.ofBelow g4)
      have hx3 : (xs.set j ⟨(kk : Nat), (k1 : Nat), (k2 : Nat), xs0⟩)[j]? = some ⟨(kk : Nat), (k1 : Nat), (k2 : Nat), xs0⟩ := List.getElem?_set_self hxl
      obtain ⟨_, _, ⟨c0, c1, c2, c3⟩, hf⟩ := S3.at4 hx3
      have f3 := hf 3 (by omega)
      generalize mtx k3 = ms at HM ⊢
      have S4 := S3.set1 (x' := ⟨(kk : Nat), (k1 : Nat), (k2 : Nat), ms⟩) (c := 3) (v := .string ms) hx3 (by omega) rfl
      have T4 := T3.setCell (p := ⟨b, off + j * 4 + 3, none⟩) hlo hhi (.string ms)
      rw [List.set_set] at S4
      have HS4 : Hid (SlIn rwE 4 lo hi (w4.setCell ⟨b, off + j * 4 + 3, none⟩ (.string ms)) (some ⟨b, off, none⟩) (mkL k (j + 1) rs)) := by rw [← HS.out, HM.out]; exact S4
      clear S4 S3 T3 g4 hx3 hf
      go_wp2_with fail
      go_roundw
      case rel => exact ⟨j + 1, by omega, by go_num, by rw [← HK4.out], T4, HS4.out⟩
      case measure => simp [intOf]; omega
    · have e : j = n := by omega
      subst e
      have HE : Hid (mkL k j rs = (List.range j).map (mkR k)) := by show _ = _; have := mkL_all (k := k) (rs := rs); rw [HN.out] at this; exact this
      go_wp2_with fail
      go_ret
      exact ⟨rfl, ht, by rw [← HE.out]; exact hS⟩

end Go.Proofs.Ytonngopnhpmjaaa

/-
  The law FnExactChangesOf answers true.
-/
namespace Go.Proofs.Ytonngopnhpmjaaa
open Go.RowKit Go.Maps
set_option linter.unusedVariables false

set_option maxRecDepth 20000 in
set_option maxHeartbeats 4000000 in
theorem lawChangesOf_any (a : Option Addr) (n c : Nat) (bs : List Rw) (a' : Option Addr) (n' c' : Nat) (az : List Rw) (w : World) (h : IsRows w a n bs) (h' : IsRows w a' n' az) :
    Calls Try.prog 3 #[.slice a n c, .slice a' n' c'] w fun e w' => e = .returned (.bool true) ∧ Below w.heap.size w w' := by
  obtain ⟨hr, hn, hm, hs, _⟩ := h
  obtain ⟨hr', hn', hm', hs', _⟩ := h'
  have HR : Hid (∀ W, Below w.heap.size w W → Rs rwE 4 W a bs) := fun W hW => hr.below hW (Nat.le_refl _)
  have HR' : Hid (∀ W, Below w.heap.size w W → Rs rwE 4 W a' az) := fun W hW => hr'.below hW (Nat.le_refl _)
  have HN : Hid (bs.length = n) := hn
  have HN' : Hid (az.length = n') := hn'
  have HS : Hid (∀ r ∈ bs, r.s.size ≤ maxLen) := hs
  have HS' : Hid (∀ r ∈ az, r.s.size ≤ maxLen) := hs'
  obtain ⟨q, hq⟩ : ∃ q, q = coQ bs az := ⟨_, rfl⟩
  have HQ : Hid (coQ bs az = q) := hq.symm
  clear hq hr hn hs hr' hn' hs'
  go_enter Try.func3, Try.ntmps3
  go_wp2_with fail
  refine (szRowS_any a bs n c _ 1048576 HN.out hm HS.out (HR.out _ (Below.refl _ _)) (by omega) (by omega)).mono ?_
  rintro e w1 ⟨⟨r, rfl, hr1, hl⟩, g1⟩
  by_cases h0 : r < 0
  · go_wp2_with fail
    go_ret
    exact ⟨rfl, g1⟩
  have hn : n ≤ 1048576 := (hl (by omega)).1
  have HZ : Hid (∀ x ∈ bs, x.s.size ≤ 1048576) := (hl (by omega)).2
  have h0 : ¬ (r < 0) := h0
  clear hl
  go_wp2_with fail
  refine (szRowS_any a' az n' c' _ r HN'.out hm' HS'.out (HR'.out _ g1) (by omega) (by omega)).mono ?_
  rintro e w2 ⟨⟨r2, rfl, hr2, hl⟩, g2⟩
  have g2 : Below w.heap.size w w2 := g1.trans (g2.mono g1.size)
  clear g1
  by_cases h2 : r2 < 0
  · go_wp2_with fail
    go_ret
    exact ⟨rfl, g2⟩
  have hn' : n' ≤ 1048576 := (hl (by omega)).1
  have HZ' : Hid (∀ x ∈ az, x.s.size ≤ 1048576) := (hl (by omega)).2
  have h2 : ¬ (r2 < 0) := h2
  clear hl
  go_wp2_with fail
  refine (toRowS_any a bs n c _ HN.out hn (HR.out _ g2)).mono ?_
  rintro e w3 ⟨rfl, g3, o3⟩
  have hs23 := g2.size
  have g3 : Below w.heap.size w w3 := g2.trans (g3.mono g2.size)
  generalize w2.heap.size = b2 at o3 hs23 ⊢
  clear g2
  go_wp2_with fail
  refine (toRowS_any a' az n' c' _ HN'.out hn' (HR'.out _ g3)).mono ?_
  rintro e w4 ⟨rfl, g4, o4⟩
  have o3 := o3.below g4
  have g4 : Below w.heap.size w w4 := g3.trans (g4.mono g3.size)
  generalize w3.heap.size = b3' at o3 o4 ⊢
  clear g3
  go_wp2_with fail
  refine (specChangesOf_any _ _ bs az n n' n n' _ HN.out HN'.out hn hn' HZ.out HZ'.out o3.reads o4.reads).mono ?_
  rintro e w5 hco
  obtain ⟨a3, cs, c3, rfl, g5, s3, L3⟩ := hco.form
  have hs4 := g4.size
  have hs5 := g5.size
  rw [HQ.out]
  have HL : Hid (CoL bs az cs) := L3
  obtain ⟨m, hm0⟩ : ∃ m, m = cs.length := ⟨_, rfl⟩
  have HM : Hid (cs.length = m) := hm0.symm
  have hm1 : m ≤ 1000 := by rw [hm0]; exact L3.len
  rw [← hm0]
  have g5 : Below w.heap.size w w5 := g4.trans (g5.mono g4.size)
  clear o3 o4 hco L3 hm0 g4
  go_upto_region 9 with (fail)
  generalize hY : World.alloc _ _ = Y
  have gY : Below w5.heap.size w5 Y := by rw [← hY]; go_grown
  have C3 : RsC Y w5.heap.size q a3 m c3 := by rw [← hY]; exact ⟨by simp [go_sem], by simp [go_sem]⟩
  have s3 := s3.below gY
  have hl3 := C3.lt
  have g5 := g5.trans (gY.mono g5.size)
  clear hY gY
  generalize w5.heap.size = b3 at C3 s3 hl3 hs5 ⊢
  generalize w4.heap.size = b4 at s3 hs5 hs4
  go_wp2_with fail
  refine (toRowS_any a bs n c _ HN.out hn (HR.out _ g5)).mono ?_
  rintro e w6 ⟨rfl, g6, o6⟩
  have C3 := C3.below g6
  have s3 := s3.below g6
  have hs6 := g6.size
  have g6 : Below w.heap.size w w6 := g5.trans (g6.mono g5.size)
  generalize Y.heap.size = b6 at o6 hl3 hs6 ⊢
  clear g5
  go_wp2_with fail
  refine (toRowS_any a' az n' c' _ HN'.out hn' (HR'.out _ g6)).mono ?_
  rintro e w7 ⟨rfl, g7, o7⟩
  have C3 := C3.below g7
  have s3 := s3.below g7
  have o6 := o6.below g7
  have hs7 := g7.size
  have g7 : Below w.heap.size w w7 := g6.trans (g7.mono g6.size)
  generalize w6.heap.size = b7 at o6 o7 hs6 hs7 ⊢
  clear g6
  go_wp2_with fail
  refine (implChangesOf_any _ _ bs az n n' n n' _ HN.out HN'.out hn hn' HZ.out HZ'.out o6.reads o7.reads).mono ?_
  rintro e w8 hco
  obtain ⟨a5, cs5, c5, rfl, g8, s5, L5⟩ := hco.form
  have hrr : cs5 = cs := L5.same HL.out
  subst hrr
  rw [HQ.out, HM.out]
  have hs8 := g8.size
  have C3 := C3.below g8
  have s3 := s3.below g8
  have o6 := o6.below g8
  have o7 := o7.below g8
  have g8 : Below w.heap.size w w8 := g7.trans (g8.mono g7.size)
  clear g7 hco L5
  go_upto_region 12 with (fail)
  generalize hY : World.alloc _ _ = Y5
  have gY : Below w8.heap.size w8 Y5 := by rw [← hY]; go_grown
  have C5 : RsC Y5 w8.heap.size q a5 m c5 := by rw [← hY]; exact ⟨by simp [go_sem], by simp [go_sem]⟩
  have C3 := C3.below gY
  have s3 := s3.below gY
  have s5 := s5.below gY
  have o6 := o6.below gY
  have o7 := o7.below gY
  have g8 := g8.trans (gY.mono g8.size)
  clear hY gY
  generalize w8.heap.size = b5 at C5 s5 hs8 ⊢
  generalize w7.heap.size = b8 at s5 o7 hs8 hs7
  have hcon := eqChangesResult_same q a5 a3 cs5 m c5 c3 Y5 HM.out hm1 s5.reads s3.reads
  obtain ⟨x0, x1⟩ := C3
  obtain ⟨y0, y1⟩ := C5
  go_wp2_with (go_at_call 12; refine hcon.mono ?_)
  rintro e w9 ⟨rfl, g9⟩
  have C3 : RsC w9 b3 q a3 m c3 := RsC.below (w := Y5) ⟨x0, x1⟩ g9
  have C5 : RsC w9 b5 q a5 m c5 := RsC.below (w := Y5) ⟨y0, y1⟩ g9
  have s3 := s3.below g9
  have s5 := s5.below g9
  have o6 := o6.below g9
  have o7 := o7.below g9
  have g9 := g8.trans (g9.mono g8.size)
  clear g8 x0 x1 y0 y1 hcon
  go_wp2_with fail
  refine (toRowS_any a bs n c _ HN.out hn (HR.out _ g9)).mono ?_
  rintro e w10 ⟨rfl, g10, p10⟩
  have C3 := C3.below g10
  have C5 := C5.below g10
  have s3 := s3.below g10
  have s5 := s5.below g10
  have o6 := o6.below g10
  have o7 := o7.below g10
  have g10 : Below w.heap.size w w10 := g9.trans (g10.mono g9.size)
  generalize w9.heap.size = b at p10 ⊢
  clear g9
  go_wp2_with fail
  refine (eqRowS_same _ _ bs n n n _ HN.out (by omega) o6.reads p10.reads).mono ?_
  rintro e w11 ⟨rfl, g11⟩
  have C3 := C3.below g11
  have C5 := C5.below g11
  have s3 := s3.below g11
  have s5 := s5.below g11
  have o6 := o6.below g11
  have o7 := o7.below g11
  have g11 : Below w.heap.size w w11 := g10.trans (g11.mono g10.size)
  clear g10 p10
  go_wp2_with fail
  refine (toRowS_any a' az n' c' _ HN'.out hn' (HR'.out _ g11)).mono ?_
  rintro e w12 ⟨rfl, g12, p12⟩
  have C3 := C3.below g12
  have C5 := C5.below g12
  have s3 := s3.below g12
  have s5 := s5.below g12
  have o6 := o6.below g12
  have o7 := o7.below g12
  have g12 : Below w.heap.size w w12 := g11.trans (g12.mono g11.size)
  generalize w11.heap.size = b at p12 ⊢
  clear g11
  go_wp2_with fail
  refine (eqRowS_same _ _ az n' n' n' _ HN'.out (by omega) o7.reads p12.reads).mono ?_
  rintro e w13 ⟨rfl, g13⟩
  have C3 := C3.below g13
  have C5 := C5.below g13
  have s3 := s3.below g13
  have s5 := s5.below g13
  have o6 := o6.below g13
  have o7 := o7.below g13
  have g13 : Below w.heap.size w w13 := g12.trans (g13.mono g12.size)
  clear g12 p12
  go_wp2_with fail
  refine (markRowS_wide _ _ _ bs n n 1 _ HN.out hn (by omega) (by omega) o6).mono ?_
  rintro e w14 ⟨rfl, t14, _⟩
  have C3 := C3.turned t14 (.inl (by omega))
  have C5 := C5.turned t14 (.inr (by omega))
  have s3 := s3.turned t14 (.inl (by omega))
  have s5 := s5.turned t14 (.inr (by omega))
  have o7 := o7.turned t14 (.inr (by omega))
  have hs13 := g13.size
  have g14 : Below w.heap.size w w14 := g13.trans (t14.toBelow hs13 (by omega))
  clear g13 t14 o6
  obtain ⟨k1, hk1⟩ : ∃ k : Nat, k = 1 + 4 * n := ⟨_, rfl⟩
  have hk1a : 1 ≤ k1 ∧ k1 ≤ 5000000 := by omega
  rw [← hk1]
  clear hk1
  go_wp2_with fail
  refine (markRowS_wide _ _ _ az n' n' k1 _ HN'.out hn' hk1a.1 hk1a.2 o7).mono ?_
  rintro e w15 ⟨rfl, t15, _⟩
  have C3 := C3.turned t15 (.inl (by omega))
  have C5 := C5.turned t15 (.inr (by omega))
  have s3 := s3.turned t15 (.inl (by omega))
  have s5 := s5.turned t15 (.inr (by omega))
  have hs14 := g14.size
  have g15 : Below w.heap.size w w15 := g14.trans (t15.toBelow hs14 (by omega))
  clear g14 t15 o7
  obtain ⟨k2, hk2⟩ : ∃ k : Int, k = ((k1 + 4 * n' : Nat) : Int) := ⟨_, rfl⟩
  have hk20 : ¬ (k2 < 0) := by omega
  rw [← hk2]
  clear hk2
  obtain ⟨x0, x1⟩ := C3
  obtain ⟨y0, y1⟩ := C5
  have hcon := eqChangesResult_same q a5 a3 cs5 m c5 c3 w15 HM.out hm1 s5.reads s3.reads
  go_wp2_with (go_at_call 12; refine hcon.mono ?_)
  rintro e w16 ⟨rfl, g16⟩
  have C3 : RsC w16 b3 q a3 m c3 := RsC.below (w := w15) ⟨x0, x1⟩ g16
  have C5 : RsC w16 b5 q a5 m c5 := RsC.below (w := w15) ⟨y0, y1⟩ g16
  have s3 := s3.below g16
  have s5 := s5.below g16
  have g16 := g15.trans (g16.mono g15.size)
  clear g15 x0 x1 y0 y1 hcon
  obtain ⟨y0, y1⟩ := C5
  have hcon := markChangesResult_any q a5 b8 b5 cs5 m c5 w16 HM.out hm1 s5
  obtain ⟨mm, hmm⟩ : ∃ mm : Int, mm = ((1 + 10 * m : Nat) : Int) := ⟨_, rfl⟩
  have hmm0 : ¬ mm < 0 := by omega
  have HMM : Hid (((1 + 10 * m : Nat) : Int) = mm) := hmm.symm
  rw [← hmm] at hcon
  clear hmm
  go_wp2_with (go_at_call 15; refine hcon.mono ?_)
  rintro e w17 ⟨rfl, t17, s5'⟩
  have C3 := C3.turned t17 (.inl (by omega))
  have C5 : RsC w17 b5 q a5 m c5 := RsC.turned (w := w16) ⟨y0, y1⟩ t17 (.inr (Nat.le_refl _))
  have s3 := s3.turned t17 (.inl (by omega))
  have hs16 := g16.size
  have g17 : Below w.heap.size w w17 := g16.trans (t17.toBelow hs16 (by omega))
  clear g16 t17 y0 y1 hcon s5
  obtain ⟨y0, y1⟩ := C5
  have hcon := heldChangesResult_any q a5 m c5 w17 hm1 s5'.reads
  rw [HMM.out] at hcon
  go_wp2_with (go_at_call 16; refine hcon.mono ?_)
  rintro e w18 ⟨rfl, g18⟩
  have C3 := C3.below g18
  have C5 : RsC w18 b5 q a5 m c5 := RsC.below (w := w17) ⟨y0, y1⟩ g18
  have s3 := s3.below g18
  have s5 := s5'.below g18
  have g18 := g17.trans (g18.mono g17.size)
  clear g17 y0 y1 hcon s5'
  go_wp2_with fail
  refine (toRowS_any a bs n c _ HN.out hn (HR.out _ g18)).mono ?_
  rintro e w19 ⟨rfl, g19, o19⟩
  have C3 := C3.below g19
  have C5 := C5.below g19
  have s3 := s3.below g19
  have s5 := s5.below g19
  have g19 : Below w.heap.size w w19 := g18.trans (g19.mono g18.size)
  generalize w18.heap.size = b19 at o19 ⊢
  clear g18
  go_wp2_with fail
  refine (toRowS_any a' az n' c' _ HN'.out hn' (HR'.out _ g19)).mono ?_
  rintro e w20 ⟨rfl, g20, o20⟩
  have C3 := C3.below g20
  have C5 := C5.below g20
  have s3 := s3.below g20
  have s5 := s5.below g20
  have o19 := o19.below g20
  have g20 : Below w.heap.size w w20 := g19.trans (g20.mono g19.size)
  generalize w19.heap.size = b20 at o20 o19 ⊢
  clear g19
  go_wp2_with fail
  refine (implChangesOf_any _ _ bs az n n' n n' _ HN.out HN'.out hn hn' HZ.out HZ'.out o19.reads o20.reads).mono ?_
  rintro e w21 hco
  obtain ⟨a14, cs14, c14, rfl, g21, s14, L14⟩ := hco.form
  have hrr : cs14 = cs5 := L14.same HL.out
  rw [hrr] at s14
  rw [HQ.out, hrr, HM.out]
  clear hrr
  have C3 := C3.below g21
  have C5 := C5.below g21
  have s3 := s3.below g21
  have s5 := s5.below g21
  have s14 := s14.reads
  have g21 : Below w.heap.size w w21 := g20.trans (g21.mono g20.size)
  clear g20 o19 o20 hco L14
  go_upto_region 32 with (fail)
  generalize hY : World.alloc _ _ = Y14
  have gY : Below w21.heap.size w21 Y14 := by rw [← hY]; go_grown
  have C14 : RsC Y14 w21.heap.size q a14 m c14 := by rw [← hY]; exact ⟨by simp [go_sem], by simp [go_sem]⟩
  have C3 := C3.below gY
  have C5 := C5.below gY
  have s3 := s3.below gY
  have s5 := s5.below gY
  have s14 := s14.below gY (Nat.le_refl _)
  have g21 := g21.trans (gY.mono g21.size)
  clear hY gY
  generalize w21.heap.size = b14 at C14 ⊢
  have hcon := eqChangesResult_same q a14 a3 cs5 m c14 c3 Y14 HM.out hm1 s14 s3.reads
  obtain ⟨x0, x1⟩ := C3
  obtain ⟨z0, z1⟩ := C14
  go_wp2_with (go_at_call 12; refine hcon.mono ?_)
  rintro e w22 ⟨rfl, g22⟩
  have C5 := C5.below g22
  have s5 := s5.below g22
  have g22 := g21.trans (g22.mono g21.size)
  clear g21 x0 x1 z0 z1 hcon s14 s3
  obtain ⟨y0, y1⟩ := C5
  have hcon := heldChangesResult_any q a5 m c5 w22 hm1 s5.reads
  rw [HMM.out] at hcon
  go_wp2_with (go_at_call 16; refine hcon.mono ?_)
  rintro e w23 ⟨rfl, g23⟩
  have g23 := g22.trans (g23.mono g22.size)
  clear g22 hcon y0 y1
  go_wp2_with fail
  go_ret
  exact ⟨rfl, g23⟩

end Go.Proofs.Ytonngopnhpmjaaa
