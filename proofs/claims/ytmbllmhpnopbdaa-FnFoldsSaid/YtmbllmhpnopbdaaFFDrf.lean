/-
  The draws of rows: l1Chance, l6DrawRows (they rise), l6BentRows (few, or 61).
-/
import Derived.Test.YtmbllmhpnopbdaaFFBent
import Derived.Test.YtmbllmhpnopbdaaFFLpt
import Derived.Test.YtmbllmhpnopbdaaFFRby
import Derived.Test.YtmbllmhpnopbdaaFFCbf
import Derived.Test.YtmbllmhpnopbdaaFFRwg

namespace Go.Proofs.Ytmbllmhpnopbdaa
open Go.RowKit Go.Maps
set_option linter.unusedVariables false

theorem ownsRow_src {w w' : World} {lo hi base e size k : Nat} {v : Value} {xs : List Value} (h : w.ownsRow base e size v k xs) (ht : Turned lo hi w w') (hb : hi ≤ base) : w'.ownsRow base e size v k xs := by
  refine ⟨h.1, ?_⟩
  rcases h.2 with h0 | ⟨g, cap, cur, hv, hg0, hg, hr⟩
  · exact .inl h0
  · exact .inr ⟨g, cap, cur, hv, hg0, (ht.block g (Array.getElem?_eq_some_iff.1 hg).1 (by omega)).trans hg, hr⟩
theorem RowC.src {w w' : World} {lo hi b o : Nat} {r : Rw} (h : RowC w b o r) (ht : Turned lo hi w w') (hb : hi ≤ b) : RowC w' b o r :=
  ⟨ht.cell h.c0 (.inr hb), ht.cell h.c1 (.inr hb), ht.cell h.c2 (.inr hb), ht.cell h.c3 (.inr hb)⟩

theorem SrcAt.low {w w' : World} {B b : Nat} {a : Option Addr} {n c : Nat} {zs : List Int} {i : Int} (h : SrcAt w b a n c zs i) (hb : Below B w w') (hB : b < B) : SrcAt w' b a n c zs i := by
  refine ⟨(hb.cell (p := ⟨b, 0, none⟩) hB).trans h.c0, (hb.cell (p := ⟨b, 1, none⟩) hB).trans h.c1, (hb.frozen (p := ⟨b, 1, none⟩) hB).trans h.f1, ?_, h.far, h.hn, h.hm, h.hz, h.i0, h.i1⟩
  rcases h.rd with hr | ⟨x, o, ha, hc⟩
  · exact .inl hr
  · refine .inr ⟨x, o, ha, fun k hk => ?_⟩
    have hx : x < b := h.far ⟨x, o, none⟩ ha (by intro e; rw [e] at hk; simp at hk)
    exact (hb.cell (p := ⟨x, o + k, none⟩) (by simp only; omega)).trans (hc k hk)
theorem Turned.low {lo hi : Nat} {w w1 w2 : World} (h : Turned lo hi w w1) (hb : Below w.heap.size w1 w2) : Turned lo hi w w2 :=
  ⟨hb.os.trans h.os, hb.tape.trans h.tape, hb.output.trans h.output, Nat.le_trans h.size hb.size, fun k hk hn => (hb.block k hk).trans (h.block k hk hn)⟩

set_option maxHeartbeats 400000 in
theorem l1Chance_any (b : Nat) (a : Option Addr) (n c : Nat) (zs : List Int) (i m : Int) (w : World) (h : SrcAt w b a n c zs i) (i9 : i ≤ 999) (m0 : 1 ≤ m) (m1 : m ≤ 65536) :
    Calls Try.prog 15 #[.pointer (some ⟨b, 0, none⟩), .int .i64 m] w fun e w' => (∃ r, e = .returned (.bool r)) ∧ Turned b (b + 1) w w' ∧ SrcAt w' b a n c zs (i + 1) := by
  go_enter Try.func15, Try.ntmps15
  go_wp2_with fail
  refine (l1Next_any b a n c zs i m w h i9 m0 m1).mono ?_
  rintro e w1 ⟨⟨r, rfl, _, _⟩, ht, hS⟩
  go_wp2_with fail
  go_ret
  exact ⟨⟨_, rfl⟩, ht, hS⟩

/-- Rows drawn: P holds of them, their texts are short, in a row of their own. -/
def SixR (rs : List Rw) : Prop := rs.length ≤ 6 ∧ rs.Pairwise rLt
def BentR (rs : List Rw) : Prop := rs.length ≤ 7 ∨ rs.length = 61
def RowsG (base : Nat) (P : List Rw → Prop) (w : World) (v : Value) : Prop := ∃ g cap rs, v = .slice (some ⟨g, 0, none⟩) rs.length cap ∧ P rs ∧ (∀ r ∈ rs, r.s.size ≤ 9) ∧ w.ownsRow base 26 4 (.slice (some ⟨g, 0, none⟩) rs.length cap) rs.length (flat rwE rs)
/-- What a draw of rows hands back; d: how many draws at most. -/
def RdPost (b : Nat) (a : Option Addr) (n c : Nat) (zs : List Int) (i : Int) (d : Int) (P : List Rw → Prop) (w : World) (e : Ending) (w' : World) : Prop :=
  (∃ v, e = .returned v ∧ RowsG w.heap.size P w' v) ∧ Turned b (b + 1) w w' ∧ ∃ j, j ≤ i + d ∧ SrcAt w' b a n c zs j

theorem RowsG.src {base lo hi : Nat} {P : List Rw → Prop} {w w' : World} {v : Value} (h : RowsG base P w v) (ht : Turned lo hi w w') (hb : hi ≤ base) : RowsG base P w' v := by
  obtain ⟨g, cap, rs, rfl, h1, h2, h3⟩ := h
  exact ⟨g, cap, rs, rfl, h1, h2, ownsRow_src h3 ht hb⟩
theorem RowsG.below {base : Nat} {P : List Rw → Prop} {w w' : World} {v : Value} (h : RowsG base P w v) (hb : Below w.heap.size w w') : RowsG base P w' v := by
  obtain ⟨g, cap, rs, rfl, h1, h2, h3⟩ := h
  exact ⟨g, cap, rs, rfl, h1, h2, ownsRow_below h3 hb⟩

set_option maxRecDepth 20000 in
set_option maxHeartbeats 4000000 in
theorem l6DrawRows_any (b : Nat) (a : Option Addr) (n c : Nat) (zs : List Int) (i : Int) (w : World) (h : SrcAt w b a n c zs i) (i9 : i ≤ 700) :
    Calls Try.prog 12 #[.pointer (some ⟨b, 0, none⟩)] w fun e w' => RdPost b a n c zs i 31 SixR w e w' := by
  have hlb := h.lt
  have hi0 := h.i0
  have gX : Below w.heap.size w (w.alloc (.cells #[] 26)) := by go_grown
  have hL := ownsRow_lit0 w 26 4
  have hS := h.below gX
  have tX : Turned b (b + 1) w (w.alloc (.cells #[] 26)) := Turned.ofBelow gX
  clear h gX
  go_enter Try.func12, Try.ntmps12
  go_wp2_with fail
  refine (l1Next_any b a n c zs i 7 _ hS (by omega) (by omega) (by omega)).mono ?_
  rintro e w1 ⟨⟨r, rfl, hr0, hr1⟩, t1, hS1⟩
  have hL1 := ownsRow_src hL t1 (by omega)
  have T1 := tX.trans t1
  clear hL hS tX t1
  obtain ⟨k0, rfl⟩ : ∃ k0 : Nat, r = k0 := ⟨r.toNat, by omega⟩
  go_wp2_with fail
  go_loopw [4, 3] (fun k v wr => ∃ kk : Nat, kk ≤ 6 ∧ k = .int .i64 kk ∧ Turned b (b + 1) w wr ∧ (∃ j, j ≤ i + 1 + 5 * (6 - (kk : Int)) ∧ SrcAt wr b a n c zs j) ∧ ∃ g cap rs, v = .slice (some ⟨g, 0, none⟩) rs.length cap ∧ rs.length + kk ≤ 6 ∧ ((∀ r ∈ rs, r.s.size ≤ 9) ∧ rs.Pairwise rLt) ∧ wr.ownsRow w.heap.size 26 4 (.slice (some ⟨g, 0, none⟩) rs.length cap) rs.length (flat rwE rs)) (fun k _ _ => (intOf k).toNat)
  case atStart => exact ⟨k0, by omega, rfl, T1, ⟨i + 1, by omega, hS1⟩, _, _, [], rfl, by simp; omega, ⟨by simp, List.Pairwise.nil⟩, hL1⟩
  case round =>
    clear hL1 T1 hS1
    obtain ⟨kk, hkk, rfl, T, ⟨j, hj, hS⟩, g, cap, rs, rfl, hlen, ⟨hss, hso⟩, ho⟩ := hrel
    have hj0 := hS.i0
    by_cases hk0 : 0 < kk
    · have hk1 : (0 : Int) < (kk : Int) := by omega
      go_wp2_with fail
      refine (l1Draw_any b a n c zs j _ hS (by omega)).mono ?_
      rintro e w2 ⟨⟨xt, xk, xv, xs, rfl, _, _, _, hxs⟩, t2, hS2⟩
      have T := T.trans t2
      have ho := ownsRow_src ho t2 (by omega)
      have hsz2 := T.size
      clear t2 hS
      go_upto_region 6 with (fail)
      generalize hY : World.alloc _ _ = Y
      have gY : Below w2.heap.size w2 Y := by rw [← hY]; go_grown
      have C : RowC Y w2.heap.size 0 ⟨xt, xk, xv, xs⟩ := by rw [← hY]; exact ⟨by simp [go_sem], by simp [go_sem], by simp [go_sem], by simp [go_sem]⟩
      have hS := hS2.below gY
      have T := T.trans (Turned.ofBelow gY)
      have ho := ownsRow_below ho gY
      clear hY gY hS2
      generalize w2.heap.size = cb at C hsz2 ⊢
      obtain ⟨a', c', e', hcap, hin, _⟩ := SlIn.ofRow rwE_len ho
      cases e'
      have hR := hin.reads
      have hAt := l6At_any (some ⟨g, 0, none⟩) rs rs.length cap xt xk Y rfl (by omega) hR
      obtain ⟨x0, x1, x2, x3⟩ := C
      dsimp only at x0 x1 x2 x3
      have HP : Hid (∀ V, Below Y.heap.size Y V → Calls Try.prog 34 #[.slice (some ⟨g, 0, none⟩) rs.length cap, .agg #[.int .i64 xt, .int .i64 xk, .int .i64 xv, .string xs]] V fun e w' => _) := fun V hV => l6Put_any g rs.length cap rs xt xk xv xs V rfl (by omega) hcap (hR.below hV (Nat.le_refl _))
      have HS : Hid (∀ r ∈ rs, r.s.size ≤ 9) := hss
      have HSO : Hid (rs.Pairwise rLt) := hso
      obtain ⟨rn, hrn⟩ : ∃ rn, rn = rs.length := ⟨_, rfl⟩
      have HRN : Hid (rs.length = rn) := hrn.symm
      rw [← hrn] at hAt HP ho hlen hcap ⊢
      clear hrn hss hso hin hR
      go_wp2_with fail
      refine hAt.mono ?_
      rintro e Y2 ⟨r2, rfl, hA, hw⟩
      rw [hw]
      have HA : Hid (r2 < 0 → ∀ x ∈ rs, ¬ (x.t = xt ∧ x.k = xk)) := fun h2 => by
        rcases hA with ⟨_, h⟩ | ⟨q, _, rfl, _⟩
        · exact h
        · omega
      clear hw Y2 hAt hA
      by_cases h2 : r2 < 0
      · go_wp2_with fail
        refine (HP.out Y (Below.refl _ _)).mono ?_
        rintro e Y3 ⟨g8, c8, new, rfl, hPut, b8, o8⟩
        have hnl : new.length = rn + 1 := by rw [hPut.perm.length_eq, List.length_cons, HRN.out]
        have hns : ∀ r ∈ new, r.s.size ≤ 9 := fun r hr => by
          rcases List.mem_cons.1 (hPut.perm.mem_iff.1 hr) with h | h
          · rw [h]; exact Nat.le_trans hxs (by omega)
          · exact HS.out r h
        have HNL : Hid (new.length = rn + 1) := hnl
        have HNS : Hid (new.Pairwise rLt) := hPut.sorted HSO.out (HA.out h2)
        clear hnl
        have hS := hS.below b8
        have hTs := T.size
        have T := T.trans (Turned.ofBelow b8)
        have o8 := ownsRow_base o8 hTs
        clear hPut b8 HP x0 x1 x2 x3 ho
        go_wp2_with fail
        go_roundw
        case rel => exact ⟨kk - 1, by omega, by go_num, T, ⟨j + 5, by omega, hS⟩, g8, c8, new, rfl, by rw [HNL.out]; omega, ⟨hns, HNS.out⟩, o8⟩
        case measure => simp [intOf]; omega
      · clear HP
        go_wp2_with fail
        go_roundw
        case rel => exact ⟨kk - 1, by omega, by go_num, T, ⟨j + 5, by omega, hS⟩, g, cap, rs, by rw [HRN.out], by rw [HRN.out]; omega, ⟨HS.out, HSO.out⟩, by rw [HRN.out]; exact ho⟩
        case measure => simp [intOf]; omega
    · have hk : kk = 0 := by omega
      subst hk
      go_wp2_with fail
      go_ret
      exact ⟨⟨_, rfl, g, cap, rs, rfl, ⟨by omega, hso⟩, hss, ho⟩, T, j, by omega, hS⟩

theorem zero61 : ∃ rs : List Rw, rs.length = 61 ∧ (∀ r ∈ rs, r.s.size ≤ 9) ∧ flat rwE rs = (madeCells (Value.agg #[.int .i64 0, .int .i64 0, .int .i64 0, .string ⟨#[]⟩]).cells (61 * 4)).toList :=
  ⟨List.replicate 61 ⟨0, 0, 0, ⟨#[]⟩⟩, by simp, fun r hr => by rw [List.eq_of_mem_replicate hr]; decide, by kernel_rfl⟩

end Go.Proofs.Ytmbllmhpnopbdaa
