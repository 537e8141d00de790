/-
  ChangesOf, the program's and the model's.
-/
import Derived.Test.YthhkgpflodeleaaFCMch

namespace Go.Proofs.Ythhkgpflodeleaa
open Go.RowKit Go.Maps
set_option linter.unusedVariables false

def coQ (bs az : List Rw) : Int := orI (rowsQ bs) (rowsQ az)
theorem coQ_zero {bs az : List Rw} : coQ bs az = 0 ↔ rowsQ bs = 0 ∧ rowsQ az = 0 := by
  unfold coQ orI
  split
  · rename_i h; simp [h]
  · rename_i h; simp [h]
/-- The changes of an answer. -/
def CoL (bs az : List Rw) (cs : List Chg) : Prop := (coQ bs az = 0 → ∃ ks, KeyL bs az ks ∧ cs = chL bs az ks) ∧ (coQ bs az ≠ 0 → cs = [])
theorem KeyL.unique {bs az ks ks' : List Rw} (h : KeyL bs az ks) (h' : KeyL bs az ks') : ks = ks' := by
  refine List.Perm.eq_of_pairwise (le := rLt) (fun a b _ _ h1 h2 => ?_) h.2 h'.2 (h.1.trans h'.1.symm)
  unfold rLt at h1 h2
  omega
theorem CoL.same {bs az : List Rw} {cs cs' : List Chg} (h : CoL bs az cs) (h' : CoL bs az cs') : cs = cs' := by
  by_cases hq : coQ bs az = 0
  · obtain ⟨ks, k1, rfl⟩ := h.1 hq
    obtain ⟨ks', k2, rfl⟩ := h'.1 hq
    rw [k1.unique k2]
  · rw [h.2 hq, h'.2 hq]
theorem CoL.len {bs az : List Rw} {cs : List Chg} (h : CoL bs az cs) : cs.length ≤ 1000 := by
  by_cases hq : coQ bs az = 0
  · obtain ⟨ks, k1, rfl⟩ := h.1 hq
    obtain ⟨q1, q2⟩ := coQ_zero.1 hq
    have h1 := (rowsQ_zero q1).1
    have h2 := (rowsQ_zero q2).1
    have h3 := k1.len
    have h4 := chL_len bs az ks
    omega
  · rw [h.2 hq]; simp
/-- What ChangesOf hands back. -/
def CoPost (bs az : List Rw) (w : World) (e : Ending) (w' : World) : Prop :=
  ∃ v cs, e = .returned (.agg #[.int .i64 (coQ bs az), v]) ∧ Below w.heap.size w w' ∧ w'.ownsRow w.heap.size 51 10 v cs.length (flat chE cs) ∧ CoL bs az cs
theorem CoPost.form {bs az : List Rw} {w w' : World} {e : Ending} (h : CoPost bs az w e w') : ∃ a cs c, e = .returned (.agg #[.int .i64 (coQ bs az), .slice a cs.length c]) ∧ Below w.heap.size w w' ∧ SlIn chE 10 w.heap.size w'.heap.size w' a cs ∧ CoL bs az cs := by
  obtain ⟨v, cs, rfl, g, ho, h1⟩ := h
  obtain ⟨a, c, rfl, _, hi, _⟩ := SlIn.ofRow chE_len ho
  exact ⟨a, cs, c, rfl, g, hi, h1⟩

theorem RsO.new45 (w : World) : RsO (w.alloc (.cells #[.int .i64 0, .slice none 0 0] 29)) w.heap.size :=
  ⟨by simp [go_sem], by simp [go_sem], by simp [go_sem], by simp [go_sem]⟩

set_option maxRecDepth 20000 in
set_option maxHeartbeats 4000000 in
theorem implChangesOf_any (a a' : Option Addr) (bs az : List Rw) (n n' c c' : Nat) (w : World) (hn : bs.length = n) (hn' : az.length = n') (hm : n ≤ 1048576) (hm' : n' ≤ 1048576) (hs : ∀ r ∈ bs, r.s.size ≤ 1048576) (hs' : ∀ r ∈ az, r.s.size ≤ 1048576) (hr : Rs rwE 4 w a bs) (hr' : Rs rwE 4 w a' az) :
    Calls Try.prog 6 #[.slice a n c, .slice a' n' c'] w fun e w' => CoPost bs az w e w' := by
  have hO := RsO.new45 w
  have gX : Below w.heap.size w (w.alloc (.cells #[.int .i64 0, .slice none 0 0] 29)) := by go_grown
  have hlX : w.heap.size < (w.alloc (.cells #[.int .i64 0, .slice none 0 0] 29)).heap.size := by simp
  have HB : Hid (∀ W, Below w.heap.size w W → Rs rwE 4 W a bs) := fun W hW => hr.below hW (Nat.le_refl _)
  have HA : Hid (∀ W, Below w.heap.size w W → Rs rwE 4 W a' az) := fun W hW => hr'.below hW (Nat.le_refl _)
  have HN : Hid (bs.length = n) := hn
  have HN' : Hid (az.length = n') := hn'
  have HS : Hid (∀ r ∈ bs, r.s.size ≤ 1048576) := hs
  have HS' : Hid (∀ r ∈ az, r.s.size ≤ 1048576) := hs'
  have HSm : Hid (∀ r ∈ bs, r.s.size ≤ maxLen) := fun r h => Nat.le_trans (hs r h) (by decide)
  have HSm' : Hid (∀ r ∈ az, r.s.size ≤ maxLen) := fun r h => Nat.le_trans (hs' r h) (by decide)
  obtain ⟨q1, hq1⟩ : ∃ q, q = rowsQ bs := ⟨_, rfl⟩
  have HQ1 : Hid (rowsQ bs = q1) := hq1.symm
  obtain ⟨q2, hq2⟩ : ∃ q, q = rowsQ az := ⟨_, rfl⟩
  have HQ2 : Hid (rowsQ az = q2) := hq2.symm
  obtain ⟨X, hX0⟩ : ∃ X, w.alloc (.cells #[.int .i64 0, .slice none 0 0] 29) = X := ⟨_, rfl⟩
  rw [hX0] at hO gX hlX
  clear hr hr' hn hn' hs hs' hq1 hq2
  go_enter Try.func6, Try.ntmps6
  go_wp2_with fail
  refine (implRowsFault_any a bs n c _ HN.out (by omega) HSm.out (HB.out _ gX)).mono ?_
  rintro e w1 ⟨rfl, g1⟩
  rw [HQ1.out]
  have hO := hO.below g1 hlX
  have hlX := Nat.lt_of_lt_of_le hlX g1.size
  have g := gX.trans (g1.mono gX.size)
  clear g1 gX hX0
  go_wp2_with fail
  refine (implRowsFault_any a' az n' c' _ HN'.out (by omega) HSm'.out (HA.out _ g)).mono ?_
  rintro e w2 ⟨rfl, g2⟩
  rw [HQ2.out]
  have hO := hO.below g2 hlX
  have hlX := Nat.lt_of_lt_of_le hlX g2.size
  have g := g.trans (g2.mono g.size)
  clear g2
  have HQ : Hid (coQ bs az = orI q1 q2) := by show _ = _; unfold coQ; rw [HQ1.out, HQ2.out]
  go_upto_region 2 with (go_at_call 17; refine (or64_any _ q1 q2 _ (by simp [go_sem]) (by simp [go_sem])).mono ?_; rintro e w3 ⟨rfl, rfl⟩)
  have gY : ∀ t, Below w2.heap.size w2 (w2.alloc (.cells #[.int .i64 q1, .int .i64 q2] t)) := fun t => (Below.refl _ _).alloc (Nat.le_refl _) _
  have hO := hO.below (gY 2) hlX
  have hlX := Nat.lt_of_lt_of_le hlX (gY 2).size
  have g := g.trans ((gY 2).mono g.size)
  clear gY
  generalize w2.alloc (.cells #[.int .i64 q1, .int .i64 q2] 2) = w2 at hO hlX g ⊢
  generalize orI q1 q2 = q at HQ ⊢
  have hs0 := g.size
  by_cases hq0 : q = 0
  · subst hq0
    obtain ⟨z1, z2⟩ := coQ_zero.1 HQ.out
    obtain ⟨l1, o1, k1⟩ := rowsQ_zero z1
    obtain ⟨l2, o2, k2⟩ := rowsQ_zero z2
    have hcon := changesBetween_any a a' bs az n n' c c' w2 HN.out HN'.out (by have := HN.out; omega) (by have := HN'.out; omega) (fun r h => ⟨k1 r h, HS.out r h⟩) (fun r h => ⟨k2 r h, HS'.out r h⟩) (uniq_of o1) (uniq_of o2) (HB.out _ g) (HA.out _ g)
    have HC : Hid (∀ cs ys, Rise ys → ys.Nodup → (∀ x : K3, x ∈ ys ↔ (chK bs az x.x x.y).isSome = true) → cs.map some = (ys.map fun x => chK bs az x.x x.y) → CoL bs az cs) := fun cs ys hr hd hm hc => by
      obtain ⟨ks, hks⟩ := keyL_ex bs az o1 (uniq_of o2)
      exact ⟨fun _ => ⟨ks, hks, chL_unique hks k1 k2 hr hd hm hc⟩, fun h => absurd HQ.out h⟩
    clear z1 z2 o1 o2 k1 k2 HS HS' HSm HSm' HB HA
    obtain ⟨c0, c1, f0, f1⟩ := hO
    go_wp2_with (go_at_call 19; refine hcon.mono ?_)
    rintro e w3 ⟨v, cs, ys, rfl, g3, ho, hr, hd, hM, hc⟩
    have HL : Hid (CoL bs az cs) := HC.out cs ys hr hd hM hc
    have hO : RsO w3 w.heap.size := RsO.below (w := w2) ⟨c0, c1, f0, f1⟩ g3 hlX
    have g := g.trans (g3.mono g.size)
    clear hr hd hM hc HC hcon c0 c1 f0 f1 g3
    obtain ⟨c0, c1, f0, f1⟩ := hO
    obtain ⟨va, vn, vc, rfl⟩ : ∃ a n c, v = .slice a n c := by
      obtain ⟨a, c, rfl, _⟩ := SlIn.ofRow chE_len ho
      exact ⟨_, _, _, rfl⟩
    have HO : Hid (w3.ownsRow w2.heap.size 51 10 (.slice va vn vc) cs.length (flat chE cs)) := ho
    clear ho
    go_wp2_with fail
    refine bodyPost_ret (v := .agg #[.int .i64 0, .slice va vn vc]) (by simp [results, Try.results6, go_sem, *]) rfl ?_
    refine ⟨_, cs, by rw [HQ.out], by go_grown, ?_, HL.out⟩
    exact ownsRow_base (ownsRow_setCell_below (ownsRow_setCell_below HO.out (by dsimp only; omega) _) (by dsimp only; omega) _) (by omega)
  · have d : (q != 0) = true := by simpa using hq0
    obtain ⟨c0, c1, f0, f1⟩ := hO
    go_wp2_with fail
    refine bodyPost_ret (v := .agg #[.int .i64 q, .slice none 0 0]) (by simp [results, Try.results6, go_sem, *]) rfl ?_
    exact ⟨_, [], by rw [HQ.out], by go_grown, ownsRow_nil _ _ _ _, fun h => absurd (HQ.out.symm.trans h) hq0, fun _ => rfl⟩

set_option maxRecDepth 20000 in
set_option maxHeartbeats 4000000 in
theorem specChangesOf_any (a a' : Option Addr) (bs az : List Rw) (n n' c c' : Nat) (w : World) (hn : bs.length = n) (hn' : az.length = n') (hm : n ≤ 1048576) (hm' : n' ≤ 1048576) (hs : ∀ r ∈ bs, r.s.size ≤ 1048576) (hs' : ∀ r ∈ az, r.s.size ≤ 1048576) (hr : Rs rwE 4 w a bs) (hr' : Rs rwE 4 w a' az) :
    Calls Try.prog 7 #[.slice a n c, .slice a' n' c'] w fun e w' => CoPost bs az w e w' := by
  have hO := RsO.new45 w
  have gX : Below w.heap.size w (w.alloc (.cells #[.int .i64 0, .slice none 0 0] 29)) := by go_grown
  have hlX : w.heap.size < (w.alloc (.cells #[.int .i64 0, .slice none 0 0] 29)).heap.size := by simp
  have HB : Hid (∀ W, Below w.heap.size w W → Rs rwE 4 W a bs) := fun W hW => hr.below hW (Nat.le_refl _)
  have HA : Hid (∀ W, Below w.heap.size w W → Rs rwE 4 W a' az) := fun W hW => hr'.below hW (Nat.le_refl _)
  have HN : Hid (bs.length = n) := hn
  have HN' : Hid (az.length = n') := hn'
  have HSm : Hid (∀ r ∈ bs, r.s.size ≤ maxLen) := fun r h => Nat.le_trans (hs r h) (by decide)
  have HSm' : Hid (∀ r ∈ az, r.s.size ≤ maxLen) := fun r h => Nat.le_trans (hs' r h) (by decide)
  obtain ⟨q1, hq1⟩ : ∃ q, q = rowsQ bs := ⟨_, rfl⟩
  have HQ1 : Hid (rowsQ bs = q1) := hq1.symm
  obtain ⟨q2, hq2⟩ : ∃ q, q = rowsQ az := ⟨_, rfl⟩
  have HQ2 : Hid (rowsQ az = q2) := hq2.symm
  obtain ⟨X, hX0⟩ : ∃ X, w.alloc (.cells #[.int .i64 0, .slice none 0 0] 29) = X := ⟨_, rfl⟩
  rw [hX0] at hO gX hlX
  clear hr hr' hn hn' hs hs' hq1 hq2
  go_enter Try.func7, Try.ntmps7
  go_wp2_with fail
  refine (l6Rows_any a bs n c _ HN.out (by omega) HSm.out (HB.out _ gX)).mono ?_
  rintro e w1 ⟨rfl, g1⟩
  rw [HQ1.out]
  have hO := hO.below g1 hlX
  have hlX := Nat.lt_of_lt_of_le hlX g1.size
  have g := gX.trans (g1.mono gX.size)
  clear g1 gX hX0
  have hs0 := g.size
  by_cases h1 : q1 = 0
  · subst h1
    go_wp2_with fail
    refine (l6Rows_any a' az n' c' _ HN'.out (by omega) HSm'.out (HA.out _ g)).mono ?_
    rintro e w2 ⟨rfl, g2⟩
    rw [HQ2.out]
    have hO := hO.below g2 hlX
    have hlX := Nat.lt_of_lt_of_le hlX g2.size
    have g := g.trans (g2.mono g.size)
    clear g2
    have hs0 := g.size
    by_cases h2 : q2 = 0
    · subst h2
      have HQ : Hid (coQ bs az = 0) := coQ_zero.2 ⟨HQ1.out, HQ2.out⟩
      obtain ⟨l1, o1, k1⟩ := rowsQ_zero HQ1.out
      obtain ⟨l2, o2, k2⟩ := rowsQ_zero HQ2.out
      have hcon := l6Changes_any a a' bs az n n' c c' w2 HN.out HN'.out (by have := HN.out; omega) (by have := HN'.out; omega) o1 o2 (HB.out _ g) (HA.out _ g)
      clear o1 o2 k1 k2 HSm HSm' HB HA
      obtain ⟨c0, c1, f0, f1⟩ := hO
      go_wp2_with (go_at_call 21; refine hcon.mono ?_)
      rintro e w3 ⟨v, ks, rfl, g3, ho, hk⟩
      have HL : Hid (CoL bs az (chL bs az ks)) := ⟨fun _ => ⟨ks, hk, rfl⟩, fun h => absurd HQ.out h⟩
      generalize chL bs az ks = cs at ho HL
      have hO : RsO w3 w.heap.size := RsO.below (w := w2) ⟨c0, c1, f0, f1⟩ g3 hlX
      have g := g.trans (g3.mono g.size)
      clear hk hcon c0 c1 f0 f1 g3
      obtain ⟨c0, c1, f0, f1⟩ := hO
      obtain ⟨va, vn, vc, rfl⟩ : ∃ a n c, v = .slice a n c := by
        obtain ⟨a, c, rfl, _⟩ := SlIn.ofRow chE_len ho
        exact ⟨_, _, _, rfl⟩
      have HO : Hid (w3.ownsRow w2.heap.size 51 10 (.slice va vn vc) cs.length (flat chE cs)) := ho
      clear ho
      go_wp2_with fail
      refine bodyPost_ret (v := .agg #[.int .i64 0, .slice va vn vc]) (by simp [results, Try.results7, go_sem, *]) rfl ?_
      refine ⟨_, cs, by rw [HQ.out], by go_grown, ?_, HL.out⟩
      exact ownsRow_base (ownsRow_setCell_below (ownsRow_setCell_below HO.out (by dsimp only; omega) _) (by dsimp only; omega) _) (by omega)
    · have HQ : Hid (coQ bs az = q2) := by show _ = _; unfold coQ; rw [HQ1.out, HQ2.out]; rfl
      have d : (q2 != 0) = true := by simpa using h2
      obtain ⟨c0, c1, f0, f1⟩ := hO
      go_wp2_with fail
      refine bodyPost_ret (v := .agg #[.int .i64 q2, .slice none 0 0]) (by simp [results, Try.results7, go_sem, *]) rfl ?_
      exact ⟨_, [], by rw [HQ.out], by go_grown, ownsRow_nil _ _ _ _, fun h => absurd (HQ.out.symm.trans h) h2, fun _ => rfl⟩
  · have HQ : Hid (coQ bs az = q1) := by show _ = _; unfold coQ orI; rw [HQ1.out, if_neg h1]
    have d : (q1 != 0) = true := by simpa using h1
    obtain ⟨c0, c1, f0, f1⟩ := hO
    go_wp2_with fail
    refine bodyPost_ret (v := .agg #[.int .i64 q1, .slice none 0 0]) (by simp [results, Try.results7, go_sem, *]) rfl ?_
    exact ⟨_, [], by rw [HQ.out], by go_grown, ownsRow_nil _ _ _ _, fun h => absurd (HQ.out.symm.trans h) h1, fun _ => rfl⟩

end Go.Proofs.Ythhkgpflodeleaa
