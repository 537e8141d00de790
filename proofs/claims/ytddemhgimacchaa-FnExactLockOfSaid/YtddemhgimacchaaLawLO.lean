/-
  Both LockOf; the law FnExactLockOf answers true.
-/
import Derived.Test.YtddemhgimacchaaLawTX
namespace Go.Proofs.Ytddemhgimacchaa
open Go.ChangeShapes Go.WideShapes Go.RowKit Go.Maps
set_option linter.unusedVariables false
set_option maxRecDepth 20000

def loQ (xs : List TxV) (x y : Int) : Int := if txsQ xs = 0 then (if keyB ⟨x, y⟩ = true then 0 else 3) else txsQ xs
def loV (xs : List TxV) (x y : Int) : Int := if loQ xs x y = 0 then lkr xs ⟨x, y⟩ else 0
/-- Two cells of an answer, new; and as they are kept. -/
structure R2f (w : World) (b : Nat) : Prop where
  c0 : w.cell? ⟨b, 0, none⟩ = some (.int .i64 0)
  c1 : w.cell? ⟨b, 1, none⟩ = some (.int .i64 0)
  f0 : w.frozen? ⟨b, 0, none⟩ = false
  f1 : w.frozen? ⟨b, 1, none⟩ = false
theorem R2f.lt {w : World} {b : Nat} (h : R2f w b) : b < w.heap.size := World.block_lt_of_cell? w _ h.c0
theorem R2f.below {w w' : World} {b : Nat} (h : R2f w b) (hb : Below w.heap.size w w') : R2f w' b :=
  ⟨(hb.cell (p := ⟨b, 0, none⟩) h.lt).trans h.c0, (hb.cell (p := ⟨b, 1, none⟩) h.lt).trans h.c1, (hb.frozen (p := ⟨b, 0, none⟩) h.lt).trans h.f0, (hb.frozen (p := ⟨b, 1, none⟩) h.lt).trans h.f1⟩
structure R2 (w : World) (b : Nat) (p q : Int) : Prop where
  c0 : w.cell? ⟨b, 0, none⟩ = some (.int .i64 p)
  c1 : w.cell? ⟨b, 1, none⟩ = some (.int .i64 q)
theorem R2.lt {w : World} {b : Nat} {p q : Int} (h : R2 w b p q) : b < w.heap.size := World.block_lt_of_cell? w _ h.c0
theorem R2.below {w w' : World} {b : Nat} {p q : Int} (h : R2 w b p q) (hb : Below w.heap.size w w') : R2 w' b p q :=
  ⟨(hb.cell (p := ⟨b, 0, none⟩) h.lt).trans h.c0, (hb.cell (p := ⟨b, 1, none⟩) h.lt).trans h.c1⟩
theorem below_s2 {w W : World} {b : Nat} (g : Below w.heap.size w W) (hb : w.heap.size ≤ b) (u v : Value) : Below w.heap.size w ((W.setCell ⟨b, 0, none⟩ u).setCell ⟨b, 1, none⟩ v) :=
  g.trans (Turned.toBelow (lo := b) (hi := b + 1) (((Turned.refl _ _ W).setCell (p := ⟨b, 0, none⟩) (Nat.le_refl _) (Nat.lt_succ_self _) _).setCell (p := ⟨b, 1, none⟩) (Nat.le_refl _) (Nat.lt_succ_self _) _) g.size hb)

set_option maxHeartbeats 4000000 in
theorem specLockOf_any (a : Option Addr) (xs : List TxV) (n c : Nat) (x y : Int) (w : World) (hn : xs.length = n) (hm : n ≤ 1048576) (hs : ∀ x ∈ xs, TxOk 1048576 x) (hr : TxRc w a xs) :
    Calls Try.prog 28 #[.slice a n c, .agg #[.int .i64 x, .int .i64 y]] w fun e w' => e = .returned (.agg #[.int .i64 (loQ xs x y), .int .i64 (loV xs x y)]) ∧ Below w.heap.size w w' := by
  have HF : Hid (∀ V, Below w.heap.size w V → Calls Try.prog 83 #[.slice a n c] V fun e w' => e = .returned (.int .i64 (txsQ xs)) ∧ Below V.heap.size V w') := fun V hV => by
    have h := l10Fault_any a xs n c V hn hm hs (hr.below hV (Nat.le_refl _)).rd
    exact h
  have HL : Hid (∀ V, Below w.heap.size w V → Calls Try.prog 90 #[.slice a n c, .agg #[.int .i64 x, .int .i64 y]] V fun e w' => e = .returned (.int .i64 (lkr xs ⟨x, y⟩)) ∧ Below V.heap.size V w') := fun V hV => l10Lock_any a xs n c x y V hn hm hs (hr.below hV (Nat.le_refl _)).rd
  have HE : Hid (loQ xs x y = (if txsQ xs = 0 then (if keyB ⟨x, y⟩ = true then 0 else 3) else txsQ xs)) := rfl
  have HV : Hid (loV xs x y = (if loQ xs x y = 0 then lkr xs ⟨x, y⟩ else 0)) := rfl
  obtain ⟨Q, hQ⟩ : ∃ Q, loQ xs x y = Q := ⟨_, rfl⟩
  obtain ⟨R, hR⟩ : ∃ R, loV xs x y = R := ⟨_, rfl⟩
  rw [hQ] at HE HV
  rw [hR] at HV
  rw [hQ, hR]
  clear hn hs hr hQ hR
  generalize txsQ xs = tq at HF HE
  generalize lkr xs ⟨x, y⟩ = lq at HL HV
  go_enter Try.func28, Try.ntmps28
  go_upto_region 1 with (fail)
  generalize hY : World.alloc _ _ = Y
  have g : Below w.heap.size w Y := by rw [← hY]; go_grown
  have k0 : Y.cell? ⟨w.heap.size, 0, none⟩ = some (.int .i64 x) := by rw [← hY]; simp [go_sem]
  have k1 : Y.cell? ⟨w.heap.size, 1, none⟩ = some (.int .i64 y) := by rw [← hY]; simp [go_sem]
  have hO : R2f Y (w.heap.size + 1) := by rw [← hY]; exact ⟨by simp [go_sem], by simp [go_sem], by simp [go_sem], by simp [go_sem]⟩
  clear hY
  obtain ⟨kb, hkb⟩ : ∃ kb, w.heap.size = kb := ⟨_, rfl⟩
  obtain ⟨ob, hob⟩ : ∃ ob, w.heap.size + 1 = ob := ⟨_, rfl⟩
  have hob1 : w.heap.size ≤ ob := by omega
  rw [hob] at hO ⊢
  rw [hkb] at k0 k1
  simp only [hkb]
  have HKB : Hid (w.heap.size = kb) := hkb
  clear hkb hob
  have lk := World.block_lt_of_cell? _ _ k0
  go_wp2_with fail
  refine (HF.out Y g).mono ?_
  rintro e w2 ⟨rfl, g2⟩
  have k0 := (g2.cell (p := ⟨kb, 0, none⟩) lk).trans k0
  have k1 := (g2.cell (p := ⟨kb, 1, none⟩) lk).trans k1
  have lk := World.block_lt_of_cell? _ _ k0
  have hO := hO.below g2
  have g := g.trans (g2.mono g.size)
  clear g2 HF
  by_cases h0 : tq = 0
  · subst h0
    have HE2 : Hid (Q = if keyB ⟨x, y⟩ = true then 0 else 3) := by have h := HE.out; show _ = _; simpa using h
    clear HE
    go_wp2_with fail
    refine (l10Key_any kb 0 x y _ k0 k1).mono ?_
    rintro e w3 ⟨rfl, hw⟩
    subst w3
    obtain ⟨kf, hkf⟩ : ∃ kf, keyB ⟨x, y⟩ = kf := ⟨_, rfl⟩
    rw [hkf] at HE2 ⊢
    clear hkf
    cases kf
    · have HX : Hid (Q = 3 ∧ R = 0) := by
        have h1 : Q = 3 := by have h := HE2.out; simpa using h
        exact ⟨h1, by rw [HV.out, if_neg (by rw [h1]; decide)]⟩
      obtain ⟨o0, o1, of0, of1⟩ := hO
      clear HE2 HV k0 k1
      go_wp2_with fail
      refine bodyPost_ret (v := .agg #[.int .i64 3, .int .i64 0]) (by simp [results, Try.results28, go_sem, *]) rfl ?_
      exact ⟨by rw [HX.out.1, HX.out.2], below_s2 g hob1 _ _⟩
    · have HX : Hid (Q = 0 ∧ R = lq) := by
        have h1 : Q = 0 := by have h := HE2.out; simpa using h
        exact ⟨h1, by rw [HV.out, if_pos h1]⟩
      clear HE2 HV
      have hlk := HL.out _ g
      go_wp2_with fail
      refine hlk.mono ?_
      rintro e w4 ⟨rfl, g4⟩
      have hO := hO.below g4
      have g := g.trans (g4.mono g.size)
      clear hlk g4 k0 k1 lk
      obtain ⟨o0, o1, of0, of1⟩ := hO
      go_wp2_with fail
      refine bodyPost_ret (v := .agg #[.int .i64 0, .int .i64 lq]) (by simp [results, Try.results28, go_sem, *]) rfl ?_
      exact ⟨by rw [HX.out.1, HX.out.2], below_s2 g hob1 _ _⟩
  · have d0 : (tq != 0) = true := by simpa using h0
    have HX : Hid (Q = tq ∧ R = 0) := by
      have h1 : Q = tq := by rw [HE.out, if_neg h0]
      exact ⟨h1, by rw [HV.out, if_neg (by rw [h1]; exact h0)]⟩
    obtain ⟨o0, o1, of0, of1⟩ := hO
    clear HE HV k0 k1 h0
    go_wp2_with fail
    refine bodyPost_ret (v := .agg #[.int .i64 tq, .int .i64 0]) (by simp [results, Try.results28, go_sem, *]) rfl ?_
    exact ⟨by rw [HX.out.1, HX.out.2], below_s2 g hob1 _ _⟩

set_option maxHeartbeats 4000000 in
theorem implLockOf_any (a : Option Addr) (xs : List TxV) (n c : Nat) (x y : Int) (w : World) (hn : xs.length = n) (hm : n ≤ 1048576) (hs : ∀ x ∈ xs, TxOk 1048576 x) (hr : TxRc w a xs) :
    Calls Try.prog 30 #[.slice a n c, .agg #[.int .i64 x, .int .i64 y]] w fun e w' => e = .returned (.agg #[.int .i64 (loQ xs x y), .int .i64 (loV xs x y)]) ∧ Below w.heap.size w w' := by
  have HF : Hid (∀ V, Below w.heap.size w V → Calls Try.prog 26 #[.slice a n c] V fun e w' => e = .returned (.int .i64 (txsQ xs)) ∧ Below V.heap.size V w') := fun V hV => by
    have h := implTxsFault_any a xs n c V hn hm hs (hr.below hV (Nat.le_refl _))
    rw [txs_eq] at h
    exact h
  have HL : Hid (∀ V, Below w.heap.size w V → Calls Try.prog 92 #[.slice a n c, .agg #[.int .i64 x, .int .i64 y]] V fun e w' => e = .returned (.int .i64 (lkr xs ⟨x, y⟩)) ∧ Below V.heap.size V w') := fun V hV => lockerOf_any a xs n c x y V hn hm hs (hr.below hV (Nat.le_refl _)).rd
  have HE : Hid (loQ xs x y = (if txsQ xs = 0 then (if keyB ⟨x, y⟩ = true then 0 else 3) else txsQ xs)) := rfl
  have HV : Hid (loV xs x y = (if loQ xs x y = 0 then lkr xs ⟨x, y⟩ else 0)) := rfl
  obtain ⟨Q, hQ⟩ : ∃ Q, loQ xs x y = Q := ⟨_, rfl⟩
  obtain ⟨R, hR⟩ : ∃ R, loV xs x y = R := ⟨_, rfl⟩
  rw [hQ] at HE HV
  rw [hR] at HV
  rw [hQ, hR]
  clear hn hs hr hQ hR
  generalize txsQ xs = tq at HF HE
  generalize lkr xs ⟨x, y⟩ = lq at HL HV
  go_enter Try.func30, Try.ntmps30
  go_upto_region 1 with (fail)
  generalize hY : World.alloc _ _ = Y
  have g : Below w.heap.size w Y := by rw [← hY]; go_grown
  have k0 : Y.cell? ⟨w.heap.size, 0, none⟩ = some (.int .i64 x) := by rw [← hY]; simp [go_sem]
  have k1 : Y.cell? ⟨w.heap.size, 1, none⟩ = some (.int .i64 y) := by rw [← hY]; simp [go_sem]
  have hO : R2f Y (w.heap.size + 1) := by rw [← hY]; exact ⟨by simp [go_sem], by simp [go_sem], by simp [go_sem], by simp [go_sem]⟩
  clear hY
  obtain ⟨kb, hkb⟩ : ∃ kb, w.heap.size = kb := ⟨_, rfl⟩
  obtain ⟨ob, hob⟩ : ∃ ob, w.heap.size + 1 = ob := ⟨_, rfl⟩
  have hob1 : w.heap.size ≤ ob := by omega
  rw [hob] at hO ⊢
  rw [hkb] at k0 k1
  simp only [hkb]
  have HKB : Hid (w.heap.size = kb) := hkb
  clear hkb hob
  have lk := World.block_lt_of_cell? _ _ k0
  go_wp2_with fail
  refine (HF.out Y g).mono ?_
  rintro e w2 ⟨rfl, g2⟩
  have k0 := (g2.cell (p := ⟨kb, 0, none⟩) lk).trans k0
  have k1 := (g2.cell (p := ⟨kb, 1, none⟩) lk).trans k1
  have lk := World.block_lt_of_cell? _ _ k0
  have hO := hO.below g2
  have g := g.trans (g2.mono g.size)
  clear g2 HF
  by_cases h0 : tq = 0
  · subst h0
    have HE2 : Hid (Q = if keyB ⟨x, y⟩ = true then 0 else 3) := by have h := HE.out; show _ = _; simpa using h
    clear HE
    go_wp2_with fail
    refine (isKey_any x y _).mono ?_
    rintro e w3 ⟨rfl, g3⟩
    have k0 := (g3.cell (p := ⟨kb, 0, none⟩) lk).trans k0
    have k1 := (g3.cell (p := ⟨kb, 1, none⟩) lk).trans k1
    have lk := World.block_lt_of_cell? _ _ k0
    have hO := hO.below g3
    have g := g.trans (g3.mono g.size)
    clear g3
    obtain ⟨kf, hkf⟩ : ∃ kf, keyB ⟨x, y⟩ = kf := ⟨_, rfl⟩
    rw [hkf] at HE2 ⊢
    clear hkf
    cases kf
    · have HX : Hid (Q = 3 ∧ R = 0) := by
        have h1 : Q = 3 := by have h := HE2.out; simpa using h
        exact ⟨h1, by rw [HV.out, if_neg (by rw [h1]; decide)]⟩
      obtain ⟨o0, o1, of0, of1⟩ := hO
      clear HE2 HV k0 k1
      go_wp2_with fail
      refine bodyPost_ret (v := .agg #[.int .i64 3, .int .i64 0]) (by simp [results, Try.results30, go_sem, *]) rfl ?_
      exact ⟨by rw [HX.out.1, HX.out.2], below_s2 g hob1 _ _⟩
    · have HX : Hid (Q = 0 ∧ R = lq) := by
        have h1 : Q = 0 := by have h := HE2.out; simpa using h
        exact ⟨h1, by rw [HV.out, if_pos h1]⟩
      clear HE2 HV
      have hlk := HL.out _ g
      go_wp2_with fail
      refine hlk.mono ?_
      rintro e w4 ⟨rfl, g4⟩
      have hO := hO.below g4
      have g := g.trans (g4.mono g.size)
      clear hlk g4 k0 k1 lk
      obtain ⟨o0, o1, of0, of1⟩ := hO
      go_wp2_with fail
      refine bodyPost_ret (v := .agg #[.int .i64 0, .int .i64 lq]) (by simp [results, Try.results30, go_sem, *]) rfl ?_
      exact ⟨by rw [HX.out.1, HX.out.2], below_s2 g hob1 _ _⟩
  · have d0 : (tq != 0) = true := by simpa using h0
    have HX : Hid (Q = tq ∧ R = 0) := by
      have h1 : Q = tq := by rw [HE.out, if_neg h0]
      exact ⟨h1, by rw [HV.out, if_neg (by rw [h1]; exact h0)]⟩
    obtain ⟨o0, o1, of0, of1⟩ := hO
    clear HE HV k0 k1 h0
    go_wp2_with fail
    refine bodyPost_ret (v := .agg #[.int .i64 tq, .int .i64 0]) (by simp [results, Try.results30, go_sem, *]) rfl ?_
    exact ⟨by rw [HX.out.1, HX.out.2], below_s2 g hob1 _ _⟩

set_option maxHeartbeats 400000 in
theorem eqIntResult_same (p q : Int) (w : World) : Calls Try.prog 31 #[.agg #[.int .i64 p, .int .i64 q], .agg #[.int .i64 p, .int .i64 q]] w fun e w' => e = .returned (.bool true) ∧ Below w.heap.size w w' := by
  go_enter Try.func31, Try.ntmps31
  go_wp2
  go_ret
  exact ⟨rfl, by go_grown⟩
/-- What the drawn region of the law keeps. -/
structure LoS (D : World) (b : Nat) (x y : Int) (V : World) : Prop where
  c : R2 V b x y
  g : Below D.heap.size D V
theorem LoS.up {D : World} {b : Nat} {x y : Int} {V V' : World} (h : LoS D b x y V) (hb : Below V.heap.size V V') : LoS D b x y V' := ⟨h.c.below hb, h.g.trans (hb.mono h.g.size)⟩
theorem LoS.turned {D : World} {b : Nat} {x y : Int} {V V' : World} (h : LoS D b x y V) {ab : Nat} (ht : Turned ab (ab + 1) V V') (hd : D.heap.size ≤ ab) (hDV : D.heap.size ≤ V.heap.size) (hb : b < D.heap.size) : LoS D b x y V' := by
  have hg := ht.toBelow (B := D.heap.size) hDV hd
  exact ⟨⟨(hg.cell (p := ⟨b, 0, none⟩) hb).trans h.c.c0, (hg.cell (p := ⟨b, 1, none⟩) hb).trans h.c.c1⟩, h.g.trans hg⟩

set_option maxHeartbeats 8000000 in
theorem lawLockOf_any (a : Option Addr) (n c : Nat) (xs : List TxV) (x y : Int) (w : World) (h : IsTxs w a n xs) :
    Calls Try.prog 6 #[.slice a n c, .agg #[.int .i64 x, .int .i64 y]] w fun e w' => e = .returned (.bool true) ∧ Below w.heap.size w w' := by
  have HR0 : Hid (∀ V, Below w.heap.size w V → TxRd V a xs) := fun V hV => h.rd.below hV (Nat.le_refl _)
  have HN : Hid (xs.length = n) := h.eq
  have HI : Hid (∀ V, Below w.heap.size w V → IsTxs V a n xs) := fun V hV => ⟨h.rd.below hV (Nat.le_refl _), h.eq, h.ln, h.ok⟩
  clear h
  go_enter Try.func6, Try.ntmps6
  go_upto_region 1 with (fail)
  generalize hY : World.alloc _ _ = Y
  have gY : Below w.heap.size w Y := by rw [← hY]; go_grown
  have hk : R2 Y w.heap.size x y := by rw [← hY]; exact ⟨by simp [go_sem], by simp [go_sem]⟩
  clear hY
  obtain ⟨bx, hbx⟩ : ∃ bx, w.heap.size = bx := ⟨_, rfl⟩
  rw [hbx] at hk
  simp only [hbx]
  have HBX : Hid (w.heap.size = bx) := hbx
  clear hbx
  have hbY := hk.lt
  have HK : Hid (∀ V, Below Y.heap.size Y V → R2 V bx x y) := fun V hV => hk.below hV
  have HR : Hid (∀ V, Below Y.heap.size Y V → TxRd V a xs) := fun V hV => HR0.out V (gY.trans (hV.mono gY.size))
  clear hk
  have hsz := szTxS_any a xs n c Y 1048576 (HI.out Y gY) (by omega) (by omega)
  go_wp2_with fail
  refine hsz.mono ?_
  rintro e w2 ⟨⟨r, rfl, hr1, hl⟩, gB⟩
  clear hsz HI
  by_cases h0 : r < 0
  · go_wp2_with fail
    go_ret
    exact ⟨rfl, gY.trans (gB.mono gY.size)⟩
  obtain ⟨hn, hs⟩ := hl (by omega)
  have HS : Hid (∀ x ∈ xs, TxOk 1048576 x) := hs
  have h0' : ¬ r < 0 := h0
  clear hl hs h0
  have HTo : Hid (∀ V, Below Y.heap.size Y V → Calls Try.prog 25 #[.slice a n c] V fun e w' => e = .returned (.slice (some ⟨V.heap.size, 0, none⟩) n n) ∧ Below V.heap.size V w' ∧ TxRc w' (some ⟨V.heap.size, 0, none⟩) xs) := fun V hV => toTxS_any a xs n c V HN.out hn HS.out (HR.out V hV)
  have HSpec : Hid (∀ (a : Option Addr) (W : World), TxRc W a xs → Calls Try.prog 28 #[.slice a n n, .agg #[.int .i64 x, .int .i64 y]] W fun e w' => e = .returned (.agg #[.int .i64 (loQ xs x y), .int .i64 (loV xs x y)]) ∧ Below W.heap.size W w') := fun a W h1 => specLockOf_any a xs n n x y W HN.out hn HS.out h1
  have HImpl : Hid (∀ (a : Option Addr) (W : World), TxRc W a xs → Calls Try.prog 30 #[.slice a n n, .agg #[.int .i64 x, .int .i64 y]] W fun e w' => e = .returned (.agg #[.int .i64 (loQ xs x y), .int .i64 (loV xs x y)]) ∧ Below W.heap.size W w') := fun a W h1 => implLockOf_any a xs n n x y W HN.out hn HS.out h1
  generalize loQ xs x y = q1 at HSpec HImpl
  generalize loV xs x y = q2 at HSpec HImpl
  go_upto_region 5 with (fail)
  have hbB : bx < w2.heap.size := Nat.lt_of_lt_of_le hbY gB.size
  go_cut [6] from 9 (fun s6 wc => ∃ ab : Nat, s6 = .pointer (some ⟨ab, 0, none⟩) ∧ Below w2.heap.size w2 wc ∧ R2 wc ab q1 q2)
  case first =>
    have H : LoS w2 bx x y w2.drew := ⟨HK.out _ (gB.trans ((Below.refl _ w2).drew.mono gB.size)), (Below.refl _ w2).drew⟩
    refine wp_region_held_drew (S := LoS w2 bx x y) (by kernel_rfl) H (fun hHeld => ?_)
    have hDV : w2.heap.size ≤ w2.drew.heap.size := Nat.le_refl _
    generalize w2.drew = D0 at hHeld hDV ⊢
    clear H
    have HT : Hid (∀ V, Below w2.heap.size w2 V → Calls Try.prog 25 #[.slice a n c] V fun e w' => e = .returned (.slice (some ⟨V.heap.size, 0, none⟩) n n) ∧ Below V.heap.size V w' ∧ TxRc w' (some ⟨V.heap.size, 0, none⟩) xs) := fun V hV => HTo.out V (gB.trans (hV.mono gB.size))
    clear gB
    refine wpAnyH_take (i := 0) (v := ?v1) rfl (by kernel_rfl) (by kernel_rfl) (by kernel_rfl) (fun _ _ _ h => h) (Or.inl ⟨by kernel_rfl, ?h1⟩) hHeld ?_
    case h1 => intro u hSw; clear hSw; go_simp; try with_reducible rfl
    try simp only [List.getElem_toArray]
    try simp only [List.getElem_cons_succ]
    try simp only [List.getElem_cons_zero]
    try simp only [Act.put]
    try simp only [List.setIfInBounds_toArray]
    try simp only [List.set]
    refine wpAnyH_take (i := 2) (v := ?v2) rfl (by kernel_rfl) (by kernel_rfl) (by kernel_rfl) (fun _ _ _ h => h) (Or.inl ⟨by kernel_rfl, ?h2⟩) hHeld ?_
    case h2 => intro u hSw; (obtain ⟨z0, z1⟩ := hSw.c); clear hSw; go_simp; try with_reducible rfl
    try simp only [List.getElem_toArray]
    try simp only [List.getElem_cons_succ]
    try simp only [List.getElem_cons_zero]
    try simp only [Act.put]
    try simp only [List.setIfInBounds_toArray]
    try simp only [List.set]
    refine wpAnyH_ready (rs := [1, 5]) (by kernel_rfl) (by simp) ?_
    refine AllReadyH.cons rfl (fun K hK => ?_) (AllReadyH.cons rfl (fun K hK => ?_) AllReadyH.nil)
    · go_simp
      go_wp2_with (go_at_call 25; refine (HT.out _ hHeld.g).mono ?_; rintro e U1 ⟨rfl, gg, n1⟩)
      refine hK.out _ _ (hHeld.up gg) (fun hHeld => ?_)
      clear hK K
      have hDV' : w2.heap.size ≤ U1.heap.size := Nat.le_trans hDV gg.size
      clear gg hDV
      have hDV := hDV'
      clear hDV'
      generalize D0.heap.size = lb at n1 ⊢
      try simp only [Act.put]
      try simp only [List.setIfInBounds_toArray]
      try simp only [List.set]
      refine wpAnyH_ready (rs := [3, 5]) (by kernel_rfl) (by simp) ?_
      refine AllReadyH.cons rfl (fun K hK => ?_) (AllReadyH.cons rfl (fun K hK => ?_) AllReadyH.nil)
      · go_simp
        go_wp2_with (go_at_call 29; refine (toKey_any x y _).mono ?_; rintro e U2 ⟨rfl, gg⟩)
        refine hK.out _ _ (hHeld.up gg) (fun hHeld => ?_)
        clear hK K
        have n1 := n1.below gg (Nat.le_refl _)
        have hDV' : w2.heap.size ≤ U2.heap.size := Nat.le_trans hDV gg.size
        clear gg hDV
        have hDV := hDV'
        clear hDV'
        try simp only [Act.put]
        try simp only [List.setIfInBounds_toArray]
        try simp only [List.set]
        refine wpAnyH_ready (rs := [4, 5]) (by kernel_rfl) (by simp) ?_
        refine AllReadyH.cons rfl (fun K hK => ?_) (AllReadyH.cons rfl (fun K hK => ?_) AllReadyH.nil)
        · go_simp
          go_wp2_with (go_at_call 28; refine (HSpec.out _ _ n1).mono ?_; rintro e U3 ⟨rfl, gg⟩)
          refine hK.out _ _ (hHeld.up gg) (fun hHeld => ?_)
          clear hK K
          have hDV' : w2.heap.size ≤ U3.heap.size := Nat.le_trans hDV gg.size
          clear gg hDV
          have hDV := hDV'
          clear hDV'
          try simp only [Act.put]
          try simp only [List.setIfInBounds_toArray]
          try simp only [List.set]
          refine wpAnyH_ready (rs := [5]) (by kernel_rfl) (by simp) ?_
          refine AllReadyH.cons rfl (fun K hK => ?_) AllReadyH.nil
          have gg : Below U3.heap.size U3 (U3.alloc (.cells #[.int .i64 0, .int .i64 0] 59)) := by go_grown
          have hab : w2.heap.size ≤ U3.heap.size := hDV
          have hB : R2f (U3.alloc (.cells #[.int .i64 0, .int .i64 0] 59)) U3.heap.size := ⟨by simp [go_sem], by simp [go_sem], by simp [go_sem], by simp [go_sem]⟩
          have hDV : w2.heap.size ≤ (U3.alloc (.cells #[.int .i64 0, .int .i64 0] 59)).heap.size := Nat.le_trans hDV gg.size
          go_simp
          refine hK.out _ _ (hHeld.up gg) (fun hHeld => ?_)
          clear hK K
          clear gg
          generalize U3.alloc (.cells #[.int .i64 0, .int .i64 0] 59) = U4 at hHeld hB hDV ⊢
          generalize U3.heap.size = ab at hB hab ⊢
          try simp only [Act.put]
          try simp only [List.setIfInBounds_toArray]
          try simp only [List.set]
          have T : Turned ab (ab + 1) U4 ((U4.setCell ⟨ab, 0, none⟩ (.int .i64 q1)).setCell ⟨ab, 1, none⟩ (.int .i64 q2)) := ((Turned.refl _ _ U4).setCell (p := ⟨ab, 0, none⟩) (Nat.le_refl _) (Nat.lt_succ_self _) _).setCell (p := ⟨ab, 1, none⟩) (Nat.le_refl _) (Nat.lt_succ_self _) _
          obtain ⟨a0, a1, f0, f1⟩ := hB
          refine wpAnyH_ready (rs := [6]) (by kernel_rfl) (by simp) ?_
          refine AllReadyH.cons rfl (fun K hK => ?_) AllReadyH.nil
          go_simp
          refine hK.out _ _ (hHeld.turned T hab hDV hbB) (fun hHeld => ?_)
          clear hK K
          try simp only [Act.put]
          try simp only [List.setIfInBounds_toArray]
          try simp only [List.set]
          refine wpAnyH_done (by kernel_rfl) ?_ _
          have b3 : R2 ((U4.setCell ⟨ab, 0, none⟩ (.int .i64 q1)).setCell ⟨ab, 1, none⟩ (.int .i64 q2)) ab q1 q2 := ⟨by simp [go_sem, a0], by simp [go_sem, a1]⟩
          go_wp2_with fail
          go_meet
          case rel => exact ⟨ab, rfl, hHeld.g, b3⟩
        · have gg : Below U2.heap.size U2 (U2.alloc (.cells #[.int .i64 0, .int .i64 0] 59)) := by go_grown
          have hab : w2.heap.size ≤ U2.heap.size := hDV
          have hB : R2f (U2.alloc (.cells #[.int .i64 0, .int .i64 0] 59)) U2.heap.size := ⟨by simp [go_sem], by simp [go_sem], by simp [go_sem], by simp [go_sem]⟩
          have hDV : w2.heap.size ≤ (U2.alloc (.cells #[.int .i64 0, .int .i64 0] 59)).heap.size := Nat.le_trans hDV gg.size
          go_simp
          refine hK.out _ _ (hHeld.up gg) (fun hHeld => ?_)
          clear hK K
          have n1 := n1.below gg (Nat.le_refl _)
          clear gg
          generalize U2.alloc (.cells #[.int .i64 0, .int .i64 0] 59) = U5 at hHeld hB hDV n1 ⊢
          generalize U2.heap.size = ab at hB hab ⊢
          try simp only [Act.put]
          try simp only [List.setIfInBounds_toArray]
          try simp only [List.set]
          refine wpAnyH_ready (rs := [4]) (by kernel_rfl) (by simp) ?_
          refine AllReadyH.cons rfl (fun K hK => ?_) AllReadyH.nil
          go_simp
          go_wp2_with (go_at_call 28; refine (HSpec.out _ _ n1).mono ?_; rintro e U6 ⟨rfl, gg⟩)
          refine hK.out _ _ (hHeld.up gg) (fun hHeld => ?_)
          clear hK K
          have hB := hB.below gg
          have hDV' : w2.heap.size ≤ U6.heap.size := Nat.le_trans hDV gg.size
          clear gg hDV
          have hDV := hDV'
          clear hDV'
          try simp only [Act.put]
          try simp only [List.setIfInBounds_toArray]
          try simp only [List.set]
          have T : Turned ab (ab + 1) U6 ((U6.setCell ⟨ab, 0, none⟩ (.int .i64 q1)).setCell ⟨ab, 1, none⟩ (.int .i64 q2)) := ((Turned.refl _ _ U6).setCell (p := ⟨ab, 0, none⟩) (Nat.le_refl _) (Nat.lt_succ_self _) _).setCell (p := ⟨ab, 1, none⟩) (Nat.le_refl _) (Nat.lt_succ_self _) _
          obtain ⟨a0, a1, f0, f1⟩ := hB
          refine wpAnyH_ready (rs := [6]) (by kernel_rfl) (by simp) ?_
          refine AllReadyH.cons rfl (fun K hK => ?_) AllReadyH.nil
          go_simp
          refine hK.out _ _ (hHeld.turned T hab hDV hbB) (fun hHeld => ?_)
          clear hK K
          try simp only [Act.put]
          try simp only [List.setIfInBounds_toArray]
          try simp only [List.set]
          refine wpAnyH_done (by kernel_rfl) ?_ _
          have b3 : R2 ((U6.setCell ⟨ab, 0, none⟩ (.int .i64 q1)).setCell ⟨ab, 1, none⟩ (.int .i64 q2)) ab q1 q2 := ⟨by simp [go_sem, a0], by simp [go_sem, a1]⟩
          go_wp2_with fail
          go_meet
          case rel => exact ⟨ab, rfl, hHeld.g, b3⟩
      · have gg : Below U1.heap.size U1 (U1.alloc (.cells #[.int .i64 0, .int .i64 0] 59)) := by go_grown
        have hab : w2.heap.size ≤ U1.heap.size := hDV
        have hB : R2f (U1.alloc (.cells #[.int .i64 0, .int .i64 0] 59)) U1.heap.size := ⟨by simp [go_sem], by simp [go_sem], by simp [go_sem], by simp [go_sem]⟩
        have hDV : w2.heap.size ≤ (U1.alloc (.cells #[.int .i64 0, .int .i64 0] 59)).heap.size := Nat.le_trans hDV gg.size
        go_simp
        refine hK.out _ _ (hHeld.up gg) (fun hHeld => ?_)
        clear hK K
        have n1 := n1.below gg (Nat.le_refl _)
        clear gg
        generalize U1.alloc (.cells #[.int .i64 0, .int .i64 0] 59) = U7 at hHeld hB hDV n1 ⊢
        generalize U1.heap.size = ab at hB hab ⊢
        try simp only [Act.put]
        try simp only [List.setIfInBounds_toArray]
        try simp only [List.set]
        refine wpAnyH_ready (rs := [3]) (by kernel_rfl) (by simp) ?_
        refine AllReadyH.cons rfl (fun K hK => ?_) AllReadyH.nil
        go_simp
        go_wp2_with (go_at_call 29; refine (toKey_any x y _).mono ?_; rintro e U8 ⟨rfl, gg⟩)
        refine hK.out _ _ (hHeld.up gg) (fun hHeld => ?_)
        clear hK K
        have n1 := n1.below gg (Nat.le_refl _)
        have hB := hB.below gg
        have hDV' : w2.heap.size ≤ U8.heap.size := Nat.le_trans hDV gg.size
        clear gg hDV
        have hDV := hDV'
        clear hDV'
        try simp only [Act.put]
        try simp only [List.setIfInBounds_toArray]
        try simp only [List.set]
        refine wpAnyH_ready (rs := [4]) (by kernel_rfl) (by simp) ?_
        refine AllReadyH.cons rfl (fun K hK => ?_) AllReadyH.nil
        go_simp
        go_wp2_with (go_at_call 28; refine (HSpec.out _ _ n1).mono ?_; rintro e U9 ⟨rfl, gg⟩)
        refine hK.out _ _ (hHeld.up gg) (fun hHeld => ?_)
        clear hK K
        have hB := hB.below gg
        have hDV' : w2.heap.size ≤ U9.heap.size := Nat.le_trans hDV gg.size
        clear gg hDV
        have hDV := hDV'
        clear hDV'
        try simp only [Act.put]
        try simp only [List.setIfInBounds_toArray]
        try simp only [List.set]
        have T : Turned ab (ab + 1) U9 ((U9.setCell ⟨ab, 0, none⟩ (.int .i64 q1)).setCell ⟨ab, 1, none⟩ (.int .i64 q2)) := ((Turned.refl _ _ U9).setCell (p := ⟨ab, 0, none⟩) (Nat.le_refl _) (Nat.lt_succ_self _) _).setCell (p := ⟨ab, 1, none⟩) (Nat.le_refl _) (Nat.lt_succ_self _) _
        obtain ⟨a0, a1, f0, f1⟩ := hB
        refine wpAnyH_ready (rs := [6]) (by kernel_rfl) (by simp) ?_
        refine AllReadyH.cons rfl (fun K hK => ?_) AllReadyH.nil
        go_simp
        refine hK.out _ _ (hHeld.turned T hab hDV hbB) (fun hHeld => ?_)
        clear hK K
        try simp only [Act.put]
        try simp only [List.setIfInBounds_toArray]
        try simp only [List.set]
        refine wpAnyH_done (by kernel_rfl) ?_ _
        have b3 : R2 ((U9.setCell ⟨ab, 0, none⟩ (.int .i64 q1)).setCell ⟨ab, 1, none⟩ (.int .i64 q2)) ab q1 q2 := ⟨by simp [go_sem, a0], by simp [go_sem, a1]⟩
        go_wp2_with fail
        go_meet
        case rel => exact ⟨ab, rfl, hHeld.g, b3⟩
    · have gg : Below D0.heap.size D0 (D0.alloc (.cells #[.int .i64 0, .int .i64 0] 59)) := by go_grown
      have hab : w2.heap.size ≤ D0.heap.size := hDV
      have hB : R2f (D0.alloc (.cells #[.int .i64 0, .int .i64 0] 59)) D0.heap.size := ⟨by simp [go_sem], by simp [go_sem], by simp [go_sem], by simp [go_sem]⟩
      have hDV : w2.heap.size ≤ (D0.alloc (.cells #[.int .i64 0, .int .i64 0] 59)).heap.size := Nat.le_trans hDV gg.size
      go_simp
      refine hK.out _ _ (hHeld.up gg) (fun hHeld => ?_)
      clear hK K
      clear gg
      generalize D0.alloc (.cells #[.int .i64 0, .int .i64 0] 59) = U10 at hHeld hB hDV ⊢
      generalize D0.heap.size = ab at hB hab ⊢
      try simp only [Act.put]
      try simp only [List.setIfInBounds_toArray]
      try simp only [List.set]
      refine wpAnyH_ready (rs := [1]) (by kernel_rfl) (by simp) ?_
      refine AllReadyH.cons rfl (fun K hK => ?_) AllReadyH.nil
      go_simp
      go_wp2_with (go_at_call 25; refine (HT.out _ hHeld.g).mono ?_; rintro e U11 ⟨rfl, gg, n1⟩)
      refine hK.out _ _ (hHeld.up gg) (fun hHeld => ?_)
      clear hK K
      have hB := hB.below gg
      have hDV' : w2.heap.size ≤ U11.heap.size := Nat.le_trans hDV gg.size
      clear gg hDV
      have hDV := hDV'
      clear hDV'
      generalize U10.heap.size = lb at n1 ⊢
      try simp only [Act.put]
      try simp only [List.setIfInBounds_toArray]
      try simp only [List.set]
      refine wpAnyH_ready (rs := [3]) (by kernel_rfl) (by simp) ?_
      refine AllReadyH.cons rfl (fun K hK => ?_) AllReadyH.nil
      go_simp
      go_wp2_with (go_at_call 29; refine (toKey_any x y _).mono ?_; rintro e U12 ⟨rfl, gg⟩)
      refine hK.out _ _ (hHeld.up gg) (fun hHeld => ?_)
      clear hK K
      have n1 := n1.below gg (Nat.le_refl _)
      have hB := hB.below gg
      have hDV' : w2.heap.size ≤ U12.heap.size := Nat.le_trans hDV gg.size
      clear gg hDV
      have hDV := hDV'
      clear hDV'
      try simp only [Act.put]
      try simp only [List.setIfInBounds_toArray]
      try simp only [List.set]
      refine wpAnyH_ready (rs := [4]) (by kernel_rfl) (by simp) ?_
      refine AllReadyH.cons rfl (fun K hK => ?_) AllReadyH.nil
      go_simp
      go_wp2_with (go_at_call 28; refine (HSpec.out _ _ n1).mono ?_; rintro e U13 ⟨rfl, gg⟩)
      refine hK.out _ _ (hHeld.up gg) (fun hHeld => ?_)
      clear hK K
      have hB := hB.below gg
      have hDV' : w2.heap.size ≤ U13.heap.size := Nat.le_trans hDV gg.size
      clear gg hDV
      have hDV := hDV'
      clear hDV'
      try simp only [Act.put]
      try simp only [List.setIfInBounds_toArray]
      try simp only [List.set]
      have T : Turned ab (ab + 1) U13 ((U13.setCell ⟨ab, 0, none⟩ (.int .i64 q1)).setCell ⟨ab, 1, none⟩ (.int .i64 q2)) := ((Turned.refl _ _ U13).setCell (p := ⟨ab, 0, none⟩) (Nat.le_refl _) (Nat.lt_succ_self _) _).setCell (p := ⟨ab, 1, none⟩) (Nat.le_refl _) (Nat.lt_succ_self _) _
      obtain ⟨a0, a1, f0, f1⟩ := hB
      refine wpAnyH_ready (rs := [6]) (by kernel_rfl) (by simp) ?_
      refine AllReadyH.cons rfl (fun K hK => ?_) AllReadyH.nil
      go_simp
      refine hK.out _ _ (hHeld.turned T hab hDV hbB) (fun hHeld => ?_)
      clear hK K
      try simp only [Act.put]
      try simp only [List.setIfInBounds_toArray]
      try simp only [List.set]
      refine wpAnyH_done (by kernel_rfl) ?_ _
      have b3 : R2 ((U13.setCell ⟨ab, 0, none⟩ (.int .i64 q1)).setCell ⟨ab, 1, none⟩ (.int .i64 q2)) ab q1 q2 := ⟨by simp [go_sem, a0], by simp [go_sem, a1]⟩
      go_wp2_with fail
      go_meet
      case rel => exact ⟨ab, rfl, hHeld.g, b3⟩
  case rest =>
    obtain ⟨b3, rfl, g3, C3⟩ := hcut
    have g3 := gB.trans (g3.mono gB.size)
    clear gB hbB
    go_wp2_with fail
    refine (HTo.out _ g3).mono ?_
    rintro e w4 ⟨rfl, g4, o4⟩
    have C3 := C3.below g4
    have g := g3.trans (g4.mono g3.size)
    clear g4 g3
    generalize wc.heap.size = b4 at o4 ⊢
    obtain ⟨z0, z1⟩ := HK.out _ g
    go_wp2_with fail
    refine (toKey_any x y _).mono ?_
    rintro e w5 ⟨rfl, g5⟩
    have C3 := C3.below g5
    have o4 := o4.below g5 (Nat.le_refl _)
    have g := g.trans (g5.mono g.size)
    clear g5 z0 z1
    go_wp2_with fail
    refine (HImpl.out _ _ o4).mono ?_
    rintro e w6 ⟨rfl, g6⟩
    have C3 := C3.below g6
    have o4 := o4.rd.below g6 (Nat.le_refl _)
    have g := g.trans (g6.mono g.size)
    clear g6
    go_upto_region 8 with (fail)
    generalize hY : World.alloc _ _ = Y7
    have g7 : Below w6.heap.size w6 Y7 := by rw [← hY]; go_grown
    have C7 : R2 Y7 w6.heap.size q1 q2 := by rw [← hY]; exact ⟨by simp [go_sem], by simp [go_sem]⟩
    have C3 := C3.below g7
    have o4 := o4.below g7 (Nat.le_refl _)
    have g := g.trans (g7.mono g.size)
    clear g7 hY
    generalize w6.heap.size = b7 at C7 ⊢
    obtain ⟨x0, x1⟩ := C3
    obtain ⟨y0, y1⟩ := C7
    go_wp2_with fail
    refine (eqIntResult_same q1 q2 _).mono ?_
    rintro e w8 ⟨rfl, g8⟩
    have o4 := o4.below g8 (Nat.le_refl _)
    have g := g.trans (g8.mono g.size)
    clear g8 x0 x1 y0 y1
    go_wp2_with fail
    refine (HTo.out _ g).mono ?_
    rintro e w9 ⟨rfl, g9, o9⟩
    have o4 := o4.below g9 (Nat.le_refl _)
    have g := g.trans (g9.mono g.size)
    clear g9
    generalize w8.heap.size = b9 at o9 ⊢
    go_wp2_with fail
    refine (eqTxS_same _ _ xs n n n _ HN.out HS.out (by omega) o4 o9.rd).mono ?_
    rintro e w10 ⟨rfl, g10⟩
    have g := g.trans (g10.mono g.size)
    clear g10 o4 o9
    go_wp2_with fail
    go_ret
    exact ⟨rfl, gY.trans (g.mono gY.size)⟩

end Go.Proofs.Ytddemhgimacchaa

