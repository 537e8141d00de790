/-
  ChangesOf, the program's and the model's.
-/
import Derived.Test.YtonngopnhpmjaaaEMch

namespace Go.Proofs.Ytonngopnhpmjaaa
open Go.RowKit Go.Maps
set_option linter.unusedVariables false

theorem rLt.trans {a b c : Rw} (h : rLt a b) (k : rLt b c) : rLt a c := by unfold rLt at *; omega
def rsOk (p : Option Rw) (r : Rw) : Bool := match p with | none => true | some q => rwB q r
theorem rsF_cons (p : Option Rw) (r : Rw) (l : List Rw) : rsF p (r :: l) = if rwF r = 0 then (if rsOk p r = true then rsF (some r) l else 1) else rwF r := rfl
theorem rsF_zero : ∀ (l : List Rw) (p : Option Rw), rsF p l = 0 → (∀ r ∈ l, rwF r = 0) ∧ l.Pairwise rLt ∧ ∀ q, p = some q → ∀ r ∈ l, rLt q r
  | [], _, _ => ⟨by simp, List.Pairwise.nil, by simp⟩
  | r :: l, p, h => by
    rw [rsF_cons] at h
    by_cases h1 : rwF r = 0
    · rw [if_pos h1] at h
      by_cases h2 : rsOk p r = true
      · rw [if_pos h2] at h
        obtain ⟨i1, i2, i3⟩ := rsF_zero l (some r) h
        have i3 := i3 r rfl
        refine ⟨?_, List.pairwise_cons.2 ⟨i3, i2⟩, ?_⟩
        · intro x hx
          rcases List.mem_cons.1 hx with rfl | hx
          · exact h1
          · exact i1 x hx
        · intro q hq x hx
          subst hq
          have hq : rLt q r := (befB_iff _ _ _ _).1 h2
          rcases List.mem_cons.1 hx with rfl | hx
          · exact hq
          · exact hq.trans (i3 x hx)
      · rw [if_neg h2] at h
        exact absurd h (by decide)
    · rw [if_neg h1] at h
      exact absurd h h1
/-- Rows without a fault. -/
theorem rowsQ_zero {rs : List Rw} (h : rowsQ rs = 0) : rs.length ≤ 60 ∧ rs.Pairwise rLt ∧ ∀ r ∈ rs, Kw r.t r.k := by
  unfold rowsQ at h
  split at h
  · exact absurd h (by decide)
  · obtain ⟨h1, h2, _⟩ := rsF_zero rs none h
    refine ⟨by omega, h2, fun r hr => ?_⟩
    have := h1 r hr
    unfold rwF faultI at this
    split at this
    · rename_i hb
      simp only [rngB, inW, Bool.and_eq_true, decide_eq_true_eq] at hb
      exact kw_small (by unfold small; omega) (by unfold small; omega)
    · exact absurd this (by decide)

def coQ (bs az : List Rw) : Int := orI (rowsQ bs) (rowsQ az)
theorem coQ_zero {bs az : List Rw} : coQ bs az = 0 ↔ rowsQ bs = 0 ∧ rowsQ az = 0 := by
  unfold coQ orI
  split
  · rename_i h; simp [h]
  · rename_i h; simp [h]
/-- The changes of an answer. -/
def CoL (bs az : List Rw) (cs : List Chg) : Prop := (coQ bs az = 0 → ∃ ks, KeyL bs az ks ∧ cs = chL bs az ks) ∧ (coQ bs az ≠ 0 → cs = [])
theorem KeyL.unique {bs az ks ks' : List Rw} (h : KeyL bs az ks) (h' : KeyL bs az ks') : ks = ks' := by
  refine List.Perm.eq_of_pairwise (le := rLt) (fun a b _ _ h1 h2 => ?_) h.2 h'.2 (h.1.trans h'.1.symm)
  unfold rLt at h1 h2
  omega
theorem CoL.same {bs az : List Rw} {cs cs' : List Chg} (h : CoL bs az cs) (h' : CoL bs az cs') : cs = cs' := by
  by_cases hq : coQ bs az = 0
  · obtain ⟨ks, k1, rfl⟩ := h.1 hq
    obtain ⟨ks', k2, rfl⟩ := h'.1 hq
    rw [k1.unique k2]
  · rw [h.2 hq, h'.2 hq]
theorem CoL.len {bs az : List Rw} {cs : List Chg} (h : CoL bs az cs) : cs.length ≤ 1000 := by
  by_cases hq : coQ bs az = 0
  · obtain ⟨ks, k1, rfl⟩ := h.1 hq
    obtain ⟨q1, q2⟩ := coQ_zero.1 hq
    have h1 := (rowsQ_zero q1).1
    have h2 := (rowsQ_zero q2).1
    have h3 := k1.len
    have h4 := chL_len bs az ks
    omega
  · rw [h.2 hq]; simp
/-- What ChangesOf hands back. -/
def CoPost (bs az : List Rw) (w : World) (e : Ending) (w' : World) : Prop :=
  ∃ v cs, e = .returned (.agg #[.int .i64 (coQ bs az), v]) ∧ Below w.heap.size w w' ∧ w'.ownsRow w.heap.size 84 10 v cs.length (flat chE cs) ∧ CoL bs az cs
theorem CoPost.form {bs az : List Rw} {w w' : World} {e : Ending} (h : CoPost bs az w e w') : ∃ a cs c, e = .returned (.agg #[.int .i64 (coQ bs az), .slice a cs.length c]) ∧ Below w.heap.size w w' ∧ SlIn chE 10 w.heap.size w'.heap.size w' a cs ∧ CoL bs az cs := by
  obtain ⟨v, cs, rfl, g, ho, h1⟩ := h
  obtain ⟨a, c, rfl, _, hi, _⟩ := SlIn.ofRow chE_len ho
  exact ⟨a, cs, c, rfl, g, hi, h1⟩

theorem RsO.new45 (w : World) : RsO (w.alloc (.cells #[.int .i64 0, .slice none 0 0] 26)) w.heap.size :=
  ⟨by simp [go_sem], by simp [go_sem], by simp [go_sem], by simp [go_sem]⟩

set_option maxRecDepth 20000 in
set_option maxHeartbeats 4000000 in
theorem implChangesOf_any (a a' : Option Addr) (bs az : List Rw) (n n' c c' : Nat) (w : World) (hn : bs.length = n) (hn' : az.length = n') (hm : n ≤ 1048576) (hm' : n' ≤ 1048576) (hs : ∀ r ∈ bs, r.s.size ≤ 1048576) (hs' : ∀ r ∈ az, r.s.size ≤ 1048576) (hr : Rs rwE 4 w a bs) (hr' : Rs rwE 4 w a' az) :
    Calls Try.prog 11 #[.slice a n c, .slice a' n' c'] w fun e w' => CoPost bs az w e w' := by
  have hO := RsO.new45 w
  have gX : Below w.heap.size w (w.alloc (.cells #[.int .i64 0, .slice none 0 0] 26)) := by go_grown
  have hlX : w.heap.size < (w.alloc (.cells #[.int .i64 0, .slice none 0 0] 26)).heap.size := by simp
  have HB : Hid (∀ W, Below w.heap.size w W → Rs rwE 4 W a bs) := fun W hW => hr.below hW (Nat.le_refl _)
  have HA : Hid (∀ W, Below w.heap.size w W → Rs rwE 4 W a' az) := fun W hW => hr'.below hW (Nat.le_refl _)
  have HN : Hid (bs.length = n) := hn
  have HN' : Hid (az.length = n') := hn'
  have HS : Hid (∀ r ∈ bs, r.s.size ≤ 1048576) := hs
  have HS' : Hid (∀ r ∈ az, r.s.size ≤ 1048576) := hs'
  have HSm : Hid (∀ r ∈ bs, r.s.size ≤ maxLen) := fun r h => Nat.le_trans (hs r h) (by decide)
  have HSm' : Hid (∀ r ∈ az, r.s.size ≤ maxLen) := fun r h => Nat.le_trans (hs' r h) (by decide)
  obtain ⟨q1, hq1⟩ : ∃ q, q = rowsQ bs := ⟨_, rfl⟩
  have HQ1 : Hid (rowsQ bs = q1) := hq1.symm
  obtain ⟨q2, hq2⟩ : ∃ q, q = rowsQ az := ⟨_, rfl⟩
  have HQ2 : Hid (rowsQ az = q2) := hq2.symm
  obtain ⟨X, hX0⟩ : ∃ X, w.alloc (.cells #[.int .i64 0, .slice none 0 0] 26) = X := ⟨_, rfl⟩
  rw [hX0] at hO gX hlX
  clear hr hr' hn hn' hs hs' hq1 hq2
  go_enter Try.func11, Try.ntmps11
  go_wp2_with fail
  refine (implRowsFault_any a bs n c _ HN.out (by omega) HSm.out (HB.out _ gX)).mono ?_
  rintro e w1 ⟨rfl, g1⟩
  rw [HQ1.out]
  have hO := hO.below g1 hlX
  have hlX := Nat.lt_of_lt_of_le hlX g1.size
  have g := gX.trans (g1.mono gX.size)
  clear g1 gX hX0
  go_wp2_with fail
  refine (implRowsFault_any a' az n' c' _ HN'.out (by omega) HSm'.out (HA.out _ g)).mono ?_
  rintro e w2 ⟨rfl, g2⟩
  rw [HQ2.out]
  have hO := hO.below g2 hlX
  have hlX := Nat.lt_of_lt_of_le hlX g2.size
  have g := g.trans (g2.mono g.size)
  clear g2
  have HQ : Hid (coQ bs az = orI q1 q2) := by show _ = _; unfold coQ; rw [HQ1.out, HQ2.out]
  go_upto_region 2 with (go_at_call 52; refine (or64_any _ q1 q2 _ (by simp [go_sem]) (by simp [go_sem])).mono ?_; rintro e w3 ⟨rfl, rfl⟩)
  have gY : ∀ t, Below w2.heap.size w2 (w2.alloc (.cells #[.int .i64 q1, .int .i64 q2] t)) := fun t => (Below.refl _ _).alloc (Nat.le_refl _) _
  have hO := hO.below (gY 2) hlX
  have hlX := Nat.lt_of_lt_of_le hlX (gY 2).size
  have g := g.trans ((gY 2).mono g.size)
  clear gY
  generalize w2.alloc (.cells #[.int .i64 q1, .int .i64 q2] 2) = w2 at hO hlX g ⊢
  generalize orI q1 q2 = q at HQ ⊢
  have hs0 := g.size
  by_cases hq0 : q = 0
  · subst hq0
    obtain ⟨z1, z2⟩ := coQ_zero.1 HQ.out
    obtain ⟨l1, o1, k1⟩ := rowsQ_zero z1
    obtain ⟨l2, o2, k2⟩ := rowsQ_zero z2
    have hcon := changesBetween_any a a' bs az n n' c c' w2 HN.out HN'.out (by have := HN.out; omega) (by have := HN'.out; omega) (fun r h => ⟨k1 r h, HS.out r h⟩) (fun r h => ⟨k2 r h, HS'.out r h⟩) (uniq_of o1) (uniq_of o2) (HB.out _ g) (HA.out _ g)
    have HC : Hid (∀ cs ys, Rise ys → ys.Nodup → (∀ x : K2, x ∈ ys ↔ (chK bs az x.x x.y).isSome = true) → cs.map some = (ys.map fun x => chK bs az x.x x.y) → CoL bs az cs) := fun cs ys hr hd hm hc => by
      obtain ⟨ks, hks⟩ := keyL_ex bs az o1 (uniq_of o2)
      exact ⟨fun _ => ⟨ks, hks, chL_unique hks k1 k2 hr hd hm hc⟩, fun h => absurd HQ.out h⟩
    clear z1 z2 o1 o2 k1 k2 HS HS' HSm HSm' HB HA
    obtain ⟨c0, c1, f0, f1⟩ := hO
    go_wp2_with (go_at_call 54; refine hcon.mono ?_)
    rintro e w3 ⟨v, cs, ys, rfl, g3, ho, hr, hd, hM, hc⟩
    have HL : Hid (CoL bs az cs) := HC.out cs ys hr hd hM hc
    have hO : RsO w3 w.heap.size := RsO.below (w := w2) ⟨c0, c1, f0, f1⟩ g3 hlX
    have g := g.trans (g3.mono g.size)
    clear hr hd hM hc HC hcon c0 c1 f0 f1 g3
    obtain ⟨c0, c1, f0, f1⟩ := hO
    obtain ⟨va, vn, vc, rfl⟩ : ∃ a n c, v = .slice a n c := by
      obtain ⟨a, c, rfl, _⟩ := SlIn.ofRow chE_len ho
      exact ⟨_, _, _, rfl⟩
    have HO : Hid (w3.ownsRow w2.heap.size 84 10 (.slice va vn vc) cs.length (flat chE cs)) := ho
    clear ho
    go_wp2_with fail
    refine bodyPost_ret (v := .agg #[.int .i64 0, .slice va vn vc]) (by simp [results, Try.results11, go_sem, *]) rfl ?_
    refine ⟨_, cs, by rw [HQ.out], by go_grown, ?_, HL.out⟩
    exact ownsRow_base (ownsRow_setCell_below (ownsRow_setCell_below HO.out (by dsimp only; omega) _) (by dsimp only; omega) _) (by omega)
  · have d : (q != 0) = true := by simpa using hq0
    obtain ⟨c0, c1, f0, f1⟩ := hO
    go_wp2_with fail
    refine bodyPost_ret (v := .agg #[.int .i64 q, .slice none 0 0]) (by simp [results, Try.results11, go_sem, *]) rfl ?_
    exact ⟨_, [], by rw [HQ.out], by go_grown, ownsRow_nil _ _ _ _, fun h => absurd (HQ.out.symm.trans h) hq0, fun _ => rfl⟩

set_option maxRecDepth 20000 in
set_option maxHeartbeats 4000000 in
theorem specChangesOf_any (a a' : Option Addr) (bs az : List Rw) (n n' c c' : Nat) (w : World) (hn : bs.length = n) (hn' : az.length = n') (hm : n ≤ 1048576) (hm' : n' ≤ 1048576) (hs : ∀ r ∈ bs, r.s.size ≤ 1048576) (hs' : ∀ r ∈ az, r.s.size ≤ 1048576) (hr : Rs rwE 4 w a bs) (hr' : Rs rwE 4 w a' az) :
    Calls Try.prog 9 #[.slice a n c, .slice a' n' c'] w fun e w' => CoPost bs az w e w' := by
  have hO := RsO.new45 w
  have gX : Below w.heap.size w (w.alloc (.cells #[.int .i64 0, .slice none 0 0] 26)) := by go_grown
  have hlX : w.heap.size < (w.alloc (.cells #[.int .i64 0, .slice none 0 0] 26)).heap.size := by simp
  have HB : Hid (∀ W, Below w.heap.size w W → Rs rwE 4 W a bs) := fun W hW => hr.below hW (Nat.le_refl _)
  have HA : Hid (∀ W, Below w.heap.size w W → Rs rwE 4 W a' az) := fun W hW => hr'.below hW (Nat.le_refl _)
  have HN : Hid (bs.length = n) := hn
  have HN' : Hid (az.length = n') := hn'
  have HSm : Hid (∀ r ∈ bs, r.s.size ≤ maxLen) := fun r h => Nat.le_trans (hs r h) (by decide)
  have HSm' : Hid (∀ r ∈ az, r.s.size ≤ maxLen) := fun r h => Nat.le_trans (hs' r h) (by decide)
  obtain ⟨q1, hq1⟩ : ∃ q, q = rowsQ bs := ⟨_, rfl⟩
  have HQ1 : Hid (rowsQ bs = q1) := hq1.symm
  obtain ⟨q2, hq2⟩ : ∃ q, q = rowsQ az := ⟨_, rfl⟩
  have HQ2 : Hid (rowsQ az = q2) := hq2.symm
  obtain ⟨X, hX0⟩ : ∃ X, w.alloc (.cells #[.int .i64 0, .slice none 0 0] 26) = X := ⟨_, rfl⟩
  rw [hX0] at hO gX hlX
  clear hr hr' hn hn' hs hs' hq1 hq2
  go_enter Try.func9, Try.ntmps9
  go_wp2_with fail
  refine (l6Rows_any a bs n c _ HN.out (by omega) HSm.out (HB.out _ gX)).mono ?_
  rintro e w1 ⟨rfl, g1⟩
  rw [HQ1.out]
  have hO := hO.below g1 hlX
  have hlX := Nat.lt_of_lt_of_le hlX g1.size
  have g := gX.trans (g1.mono gX.size)
  clear g1 gX hX0
  have hs0 := g.size
  by_cases h1 : q1 = 0
  · subst h1
    go_wp2_with fail
    refine (l6Rows_any a' az n' c' _ HN'.out (by omega) HSm'.out (HA.out _ g)).mono ?_
    rintro e w2 ⟨rfl, g2⟩
    rw [HQ2.out]
    have hO := hO.below g2 hlX
    have hlX := Nat.lt_of_lt_of_le hlX g2.size
    have g := g.trans (g2.mono g.size)
    clear g2
    have hs0 := g.size
    by_cases h2 : q2 = 0
    · subst h2
      have HQ : Hid (coQ bs az = 0) := coQ_zero.2 ⟨HQ1.out, HQ2.out⟩
      obtain ⟨l1, o1, k1⟩ := rowsQ_zero HQ1.out
      obtain ⟨l2, o2, k2⟩ := rowsQ_zero HQ2.out
      have hcon := l6Changes_any a a' bs az n n' c c' w2 HN.out HN'.out (by have := HN.out; omega) (by have := HN'.out; omega) o1 o2 (HB.out _ g) (HA.out _ g)
      clear o1 o2 k1 k2 HSm HSm' HB HA
      obtain ⟨c0, c1, f0, f1⟩ := hO
      go_wp2_with (go_at_call 50; refine hcon.mono ?_)
      rintro e w3 ⟨v, ks, rfl, g3, ho, hk⟩
      have HL : Hid (CoL bs az (chL bs az ks)) := ⟨fun _ => ⟨ks, hk, rfl⟩, fun h => absurd HQ.out h⟩
      generalize chL bs az ks = cs at ho HL
      have hO : RsO w3 w.heap.size := RsO.below (w := w2) ⟨c0, c1, f0, f1⟩ g3 hlX
      have g := g.trans (g3.mono g.size)
      clear hk hcon c0 c1 f0 f1 g3
      obtain ⟨c0, c1, f0, f1⟩ := hO
      obtain ⟨va, vn, vc, rfl⟩ : ∃ a n c, v = .slice a n c := by
        obtain ⟨a, c, rfl, _⟩ := SlIn.ofRow chE_len ho
        exact ⟨_, _, _, rfl⟩
      have HO : Hid (w3.ownsRow w2.heap.size 84 10 (.slice va vn vc) cs.length (flat chE cs)) := ho
      clear ho
      go_wp2_with fail
      refine bodyPost_ret (v := .agg #[.int .i64 0, .slice va vn vc]) (by simp [results, Try.results9, go_sem, *]) rfl ?_
      refine ⟨_, cs, by rw [HQ.out], by go_grown, ?_, HL.out⟩
      exact ownsRow_base (ownsRow_setCell_below (ownsRow_setCell_below HO.out (by dsimp only; omega) _) (by dsimp only; omega) _) (by omega)
    · have HQ : Hid (coQ bs az = q2) := by show _ = _; unfold coQ; rw [HQ1.out, HQ2.out]; rfl
      have d : (q2 != 0) = true := by simpa using h2
      obtain ⟨c0, c1, f0, f1⟩ := hO
      go_wp2_with fail
      refine bodyPost_ret (v := .agg #[.int .i64 q2, .slice none 0 0]) (by simp [results, Try.results9, go_sem, *]) rfl ?_
      exact ⟨_, [], by rw [HQ.out], by go_grown, ownsRow_nil _ _ _ _, fun h => absurd (HQ.out.symm.trans h) h2, fun _ => rfl⟩
  · have HQ : Hid (coQ bs az = q1) := by show _ = _; unfold coQ orI; rw [HQ1.out, if_neg h1]
    have d : (q1 != 0) = true := by simpa using h1
    obtain ⟨c0, c1, f0, f1⟩ := hO
    go_wp2_with fail
    refine bodyPost_ret (v := .agg #[.int .i64 q1, .slice none 0 0]) (by simp [results, Try.results9, go_sem, *]) rfl ?_
    exact ⟨_, [], by rw [HQ.out], by go_grown, ownsRow_nil _ _ _ _, fun h => absurd (HQ.out.symm.trans h) h1, fun _ => rfl⟩

end Go.Proofs.Ytonngopnhpmjaaa

/-
  Changes done to rows, plainly.
-/
namespace Go.Proofs.Ytonngopnhpmjaaa
open Go.RowKit Go.Maps
set_option linter.unusedVariables false

def ltB (a b : Rw) : Bool := decide (a.t < b.t ∨ (a.t = b.t ∧ a.k < b.k))
theorem ltB_iff {a b : Rw} : ltB a b = true ↔ rLt a b := by unfold ltB rLt; simp
/-- r put where it belongs. -/
def putL (rs : List Rw) (r : Rw) : List Rw := rs.takeWhile (ltB · r) ++ [r] ++ rs.dropWhile (ltB · r)
theorem take_while {rs : List Rw} {r : Rw} : ∀ {j : Nat}, j ≤ rs.length → (∀ x ∈ rs.take j, rLt x r) → (∀ x, rs[j]? = some x → ¬ rLt x r) → rs.takeWhile (ltB · r) = rs.take j ∧ rs.dropWhile (ltB · r) = rs.drop j := by
  induction rs with
  | nil => intro j _ _ _; simp
  | cons x l ih =>
    intro j hj h1 h2
    cases j with
    | zero =>
      have := h2 x rfl
      have hb : ltB x r = false := by cases h : ltB x r with | false => rfl | true => exact absurd (ltB_iff.1 h) this
      simp [List.takeWhile, List.dropWhile, hb]
    | succ j =>
      have hb : ltB x r = true := ltB_iff.2 (h1 x (by simp))
      obtain ⟨e1, e2⟩ := ih (j := j) (by simpa using hj) (fun y hy => h1 y (by rw [List.take_succ_cons]; exact List.mem_cons_of_mem _ hy)) (fun y hy => h2 y (by rw [List.getElem?_cons_succ]; exact hy))
      simp [hb, e1, e2]
theorem PutAt.eq {rs new : List Rw} {r : Rw} (h : PutAt rs r new) : new = putL rs r := by
  obtain ⟨j, h1, h2, h3, rfl⟩ := h
  obtain ⟨e1, e2⟩ := take_while h1 h2 h3
  unfold putL
  rw [e1, e2]
theorem putL_at (rs : List Rw) (r : Rw) : PutAt rs r (putL rs r) := by
  obtain ⟨new, h⟩ := putAt_ex r rs
  rw [← h.eq]; exact h
/-- Without the row of a key. -/
def delL (rs : List Rw) (t k : Int) : List Rw := rs.filter fun x => !(decide (x.t = t) && decide (x.k = k))
/-- The code of a change. -/
def chQ (c : Chg) : Int := if (!c.was && !c.is || c.was && c.is && (!(decide (c.b.t = c.a.t) && decide (c.b.k = c.a.k)))) = true then 1 else if c.was = true ∧ rwF c.b ≠ 0 then rwF c.b else if c.is = true then rwF c.a else 0
def kT (c : Chg) : Int := if c.is = true then c.a.t else c.b.t
def kK (c : Chg) : Int := if c.is = true then c.a.k else c.b.k
def fitB (rs : List Rw) (c : Chg) : Bool := match fR rs (kT c) (kK c) with
  | none => !c.was
  | some r => c.was && rwEq r c.b
def doL (rs : List Rw) (c : Chg) : List Rw := if c.is = true then putL (delL rs (kT c) (kK c)) c.a else delL rs (kT c) (kK c)
/-- Changes done one behind the other. -/
def apR : List Rw → List Chg → Int × List Rw
  | rs, [] => (0, rs)
  | rs, c :: l => if chQ c = 0 then (if fitB rs c = true then apR (doL rs c) l else (8, [])) else (chQ c, [])
theorem apR_cons (rs : List Rw) (c : Chg) (l : List Chg) : apR rs (c :: l) = if chQ c = 0 then (if fitB rs c = true then apR (doL rs c) l else (8, [])) else (chQ c, []) := rfl

/-- Rows that rise, with keys that are in bounds. -/
def RisL (rs : List Rw) : Prop := rs.Pairwise rLt ∧ ∀ r ∈ rs, (0 ≤ r.t ∧ r.t ≤ 3) ∧ (1 ≤ r.k ∧ r.k ≤ 99)
theorem delL_sorted {rs : List Rw} (h : rs.Pairwise rLt) (t k : Int) : (delL rs t k).Pairwise rLt := h.sublist List.filter_sublist
theorem delL_mem {rs : List Rw} {t k : Int} {x : Rw} : x ∈ delL rs t k ↔ x ∈ rs ∧ ¬ (x.t = t ∧ x.k = k) := by
  unfold delL
  rw [List.mem_filter]
  refine and_congr_right fun _ => ?_
  by_cases e1 : x.t = t <;> by_cases e2 : x.k = k <;> simp [e1, e2]
theorem fR_ext {rs rs' : List Rw} (hu : Uniq rs) (hu' : Uniq rs') {x y : Int} (h : ∀ r, r ∈ rs ∧ r.t = x ∧ r.k = y ↔ r ∈ rs' ∧ r.t = x ∧ r.k = y) : fR rs x y = fR rs' x y := by
  have one : ∀ (l : List Rw), Uniq l → ∀ r s, r ∈ l → s ∈ l → r.t = s.t ∧ r.k = s.k → r = s := fun l hl r s hr hs e => by
    obtain ⟨i, hi⟩ := List.getElem?_of_mem hr
    obtain ⟨j, hj⟩ := List.getElem?_of_mem hs
    have := uniq_eq hl hi hj e
    subst this
    rw [hi] at hj; exact Option.some.inj hj
  cases h1 : fR rs x y with
  | none =>
    cases h2 : fR rs' x y with
    | none => rfl
    | some r =>
      obtain ⟨m, e1, e2⟩ := fR_mem h2
      have := (h r).2 ⟨m, e1, e2⟩
      exact absurd ⟨this.2.1, this.2.2⟩ (fR_none.1 h1 r this.1)
  | some r =>
    obtain ⟨m, e1, e2⟩ := fR_mem h1
    have h3 := (h r).1 ⟨m, e1, e2⟩
    cases h2 : fR rs' x y with
    | none => exact absurd ⟨h3.2.1, h3.2.2⟩ (fR_none.1 h2 r h3.1)
    | some s =>
      obtain ⟨m', f1, f2⟩ := fR_mem h2
      rw [one rs' hu' r s h3.1 m' ⟨e1.trans f1.symm, e2.trans f2.symm⟩]
theorem chQ_zero {c : Chg} (h : chQ c = 0) : (c.was = true ∨ c.is = true) ∧ (c.was = true → c.is = true → c.b.t = c.a.t ∧ c.b.k = c.a.k) ∧ (c.was = true → rwF c.b = 0) ∧ (c.is = true → rwF c.a = 0) := by
  unfold chQ at h
  split at h
  · exact absurd h (by decide)
  · rename_i h1
    split at h
    · rename_i h2; exact absurd h h2.2
    · rename_i h2
      have h3 : ¬ ((!c.was && !c.is || c.was && c.is && (!(decide (c.b.t = c.a.t) && decide (c.b.k = c.a.k)))) = true) := h1
      refine ⟨?_, ?_, ?_, ?_⟩
      · cases hw : c.was <;> cases hi : c.is <;> simp [hw, hi] at h3 ⊢
      · intro hw hi
        simp [hw, hi] at h3
        exact h3
      · intro hw
        by_cases e : rwF c.b = 0
        · exact e
        · exact absurd ⟨hw, e⟩ h2
      · intro hi
        rw [if_pos hi] at h
        exact h
theorem rwF_zero {r : Rw} (h : rwF r = 0) : (0 ≤ r.t ∧ r.t ≤ 3) ∧ (1 ≤ r.k ∧ r.k ≤ 99) := by
  unfold rwF faultI at h
  split at h
  · rename_i hb
    simp only [rngB, inW, Bool.and_eq_true, decide_eq_true_eq] at hb
    omega
  · exact absurd h (by decide)
theorem doL_ok {rs : List Rw} {c : Chg} (h : RisL rs) (hq : chQ c = 0) : RisL (doL rs c) := by
  obtain ⟨_, h2, h3, h4⟩ := chQ_zero hq
  have hd : RisL (delL rs (kT c) (kK c)) := ⟨delL_sorted h.1 _ _, fun r hr => h.2 r (delL_mem.1 hr).1⟩
  unfold doL
  split
  · rename_i hi
    have hp := putL_at (delL rs (kT c) (kK c)) c.a
    refine ⟨hp.sorted hd.1 fun x hx e => (delL_mem.1 hx).2 ?_, fun r hr => ?_⟩
    · unfold kT kK; rw [if_pos hi, if_pos hi]; exact e
    · rcases List.mem_cons.1 (hp.perm.mem_iff.1 hr) with rfl | hr
      · exact rwF_zero (h4 hi)
      · exact hd.2 r hr
  · exact hd
/-- The row of each key behind a change. -/
theorem fR_doL {rs : List Rw} {c : Chg} (h : RisL rs) (hq : chQ c = 0) (x y : Int) : fR (doL rs c) x y = if x = kT c ∧ y = kK c then (if c.is = true then some c.a else none) else fR rs x y := by
  have hu := uniq_of h.1
  have hu' := uniq_of (doL_ok h hq).1
  have hmem : ∀ r, r ∈ doL rs c ↔ (r ∈ rs ∧ ¬ (r.t = kT c ∧ r.k = kK c)) ∨ (c.is = true ∧ r = c.a) := fun r => by
    unfold doL
    split
    · rename_i hi
      rw [(putL_at (delL rs (kT c) (kK c)) c.a).perm.mem_iff, List.mem_cons, delL_mem]
      constructor
      · rintro (rfl | h)
        · exact .inr ⟨hi, rfl⟩
        · exact .inl h
      · rintro (h | ⟨_, rfl⟩)
        · exact .inr h
        · exact .inl rfl
    · rename_i hi
      rw [delL_mem]
      constructor
      · exact .inl
      · rintro (h | ⟨h, _⟩)
        · exact h
        · exact absurd h hi
  by_cases hk : x = kT c ∧ y = kK c
  · rw [if_pos hk]
    by_cases hi : c.is = true
    · rw [if_pos hi]
      have ha : c.a.t = x ∧ c.a.k = y := by obtain ⟨rfl, rfl⟩ := hk; unfold kT kK; rw [if_pos hi, if_pos hi]; exact ⟨rfl, rfl⟩
      have h1 : Uniq [c.a] := List.pairwise_singleton _ _
      rw [fR_ext hu' h1 (x := x) (y := y) (fun r => by
        rw [hmem]
        constructor
        · rintro ⟨h | ⟨_, rfl⟩, e1, e2⟩
          · exact absurd ⟨e1.trans hk.1, e2.trans hk.2⟩ h.2
          · exact ⟨by simp, e1, e2⟩
        · rintro ⟨h, e⟩
          simp at h
          exact ⟨.inr ⟨hi, h⟩, e⟩)]
      unfold fR
      simp [ha.1, ha.2]
    · rw [if_neg hi]
      refine fR_none.2 fun r hr e => ?_
      rcases (hmem r).1 hr with h | h
      · exact h.2 ⟨e.1.trans hk.1, e.2.trans hk.2⟩
      · exact hi h.1
  · rw [if_neg hk]
    refine fR_ext hu' hu fun r => ?_
    rw [hmem]
    constructor
    · rintro ⟨h | ⟨hi, rfl⟩, e1, e2⟩
      · exact ⟨h.1, e1, e2⟩
      · exact absurd ⟨e1.symm.trans (by unfold kT; rw [if_pos hi]), e2.symm.trans (by unfold kK; rw [if_pos hi])⟩ hk
    · rintro ⟨h, e1, e2⟩
      exact ⟨.inl ⟨h, fun e => hk ⟨e1.symm.trans e.1, e2.symm.trans e.2⟩⟩, e1, e2⟩
theorem delL_none {rs : List Rw} {t k : Int} (h : fR rs t k = none) : delL rs t k = rs := by
  unfold delL
  rw [List.filter_eq_self]
  intro r hr
  have := fR_none.1 h r hr
  simp only [Bool.not_eq_true', Bool.and_eq_false_iff, decide_eq_false_iff_not]
  by_cases e : r.t = t
  · exact .inr fun e2 => this ⟨e, e2⟩
  · exact .inl e
theorem delL_len {rs : List Rw} (hu : Uniq rs) {t k : Int} {r : Rw} (h : fR rs t k = some r) : (delL rs t k).length + 1 = rs.length := by
  induction rs with
  | nil => simp [fR] at h
  | cons x l ih =>
    obtain ⟨hx, hl⟩ := List.pairwise_cons.1 hu
    by_cases e : x.t = t ∧ x.k = k
    · have hn : fR l t k = none := fR_none.2 fun y hy e2 => hx y hy ⟨e.1.trans e2.1.symm, e.2.trans e2.2.symm⟩
      have : delL (x :: l) t k = delL l t k := by unfold delL; rw [List.filter_cons_of_neg (by simp [e])]
      rw [this, delL_none hn]; rfl
    · have hs : fR l t k = some r := by
        unfold fR at h ⊢
        rw [List.find?_cons_of_neg (by simpa using e)] at h
        exact h
      have : delL (x :: l) t k = x :: delL l t k := by unfold delL; rw [List.filter_cons_of_pos (by by_cases e1 : x.t = t <;> by_cases e2 : x.k = k <;> simp [e1, e2] at e ⊢)]
      rw [this, List.length_cons, List.length_cons, ih hl hs]
theorem doL_len {rs : List Rw} {c : Chg} (h : RisL rs) : (doL rs c).length = (if (fR rs (kT c) (kK c)).isSome = true then rs.length - 1 else rs.length) + (if c.is = true then 1 else 0) := by
  have hp : ∀ l r, (putL l r).length = l.length + 1 := fun l r => by rw [(putL_at l r).perm.length_eq, List.length_cons]
  unfold doL
  cases hf : fR rs (kT c) (kK c) with
  | none =>
    rw [delL_none hf]
    split <;> simp [hp]
  | some r =>
    have := delL_len (uniq_of h.1) hf
    split <;> simp [hp] <;> omega
/-- Rows with bounded keys are not many. -/
theorem RisL.len {rs : List Rw} (h : RisL rs) : rs.length ≤ 400 := by
  have h1 : (rs.map fun r => r.t * 100 + r.k).Pairwise (fun a b => a < b) := by
    rw [List.pairwise_map]
    refine h.1.imp_of_mem fun {a b} ha hb hl => ?_
    have := h.2 a ha
    have := h.2 b hb
    unfold rLt at hl
    omega
  have key : ∀ (l : List Int) (lo : Int), l.Pairwise (fun a b => a < b) → (∀ x ∈ l, lo ≤ x ∧ x < 400) → (l.length : Int) ≤ max 0 (400 - lo) := by
    intro l
    induction l with
    | nil => intro lo _ _; simp; omega
    | cons x l ih =>
      intro lo hp hb
      obtain ⟨p1, p2⟩ := List.pairwise_cons.1 hp
      have := ih (x + 1) p2 fun y hy => ⟨by have := p1 y hy; omega, (hb y (List.mem_cons_of_mem _ hy)).2⟩
      have := hb x (by simp)
      rw [List.length_cons]
      omega
  have := key _ 0 h1 fun x hx => by
    obtain ⟨r, hr, rfl⟩ := List.mem_map.1 hx
    have := h.2 r hr
    omega
  rw [List.length_map] at this
  omega

end Go.Proofs.Ytonngopnhpmjaaa
