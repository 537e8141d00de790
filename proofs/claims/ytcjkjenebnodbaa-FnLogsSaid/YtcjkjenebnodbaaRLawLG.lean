/-
  The law FnLogs answers true at all codes.
-/
import Derived.Test.YtcjkjenebnodbaaRSpa
import Derived.Test.YtcjkjenebnodbaaRSam
import Derived.Test.YtcjkjenebnodbaaRLgq
import Derived.Laws.BytesArg

namespace Go.Proofs.Ytcjkjenebnodbaa
open Go.RowKit
set_option linter.unusedVariables false

/-- The three cells of a RecordsResult that is not told yet. -/
structure N3 (V : World) (b : Nat) : Prop where
  a0 : V.cell? ⟨b, 0, none⟩ = some (.int .i64 0)
  a1 : V.cell? ⟨b, 1, none⟩ = some (.int .i64 0)
  a2 : V.cell? ⟨b, 2, none⟩ = some (.slice none 0 0)
  f0 : V.frozen? ⟨b, 0, none⟩ = false
  f1 : V.frozen? ⟨b, 1, none⟩ = false
  f2 : V.frozen? ⟨b, 2, none⟩ = false
theorem N3.lt {V : World} {b : Nat} (h : N3 V b) : b < V.heap.size := World.block_lt_of_cell? V _ h.a0
theorem N3.blk {V W : World} {b : Nat} (h : N3 V b) (he : W.heap[b]? = V.heap[b]?) : N3 W b :=
  ⟨(World.cell?_of_block (a := ⟨b, 0, none⟩) he).trans h.a0, (World.cell?_of_block (a := ⟨b, 1, none⟩) he).trans h.a1, (World.cell?_of_block (a := ⟨b, 2, none⟩) he).trans h.a2,
   (World.frozen?_of_block (a := ⟨b, 0, none⟩) he).trans h.f0, (World.frozen?_of_block (a := ⟨b, 1, none⟩) he).trans h.f1, (World.frozen?_of_block (a := ⟨b, 2, none⟩) he).trans h.f2⟩
theorem N3.up {V W : World} {b : Nat} (h : N3 V b) (hb : Below V.heap.size V W) : N3 W b := h.blk (hb.block b h.lt)

set_option maxRecDepth 20000 in
set_option maxHeartbeats 40000000 in
theorem lawLogs_fits (a : Option Addr) (n c : Nat) (zs : List Int) (w : World) (rd : Dr.Reads w a zs) (hn : zs.length = n) (hm : n ≤ 1048576) (hz : ∀ z ∈ zs, 0 ≤ z ∧ z ≤ 255) :
    Calls Try.prog 3 #[.slice a n c] w fun e w' => e = .returned (.bool true) ∧ Below w.heap.size w w' := by
  have hf27 : ∀ (q : Int) (p : Option Addr) (n c : Nat) (W : World), (Instr.field 27 (.agg #[.int .i64 q, .slice p n c]) 0).run Try.prog W = .ok (.int .i64 q) W := fun _ _ _ _ _ => by kernel_rfl
  have hf40 : ∀ (q : Int) (p r : Option Addr) (n c m d : Nat) (W : World), (Instr.field 40 (.agg #[.int .i64 q, .slice p n c, .slice r m d]) 0).run Try.prog W = .ok (.int .i64 q) W := fun _ _ _ _ _ _ _ _ => by kernel_rfl
  have hf30 : ∀ (q u : Int) (p : Option Addr) (n c : Nat) (W : World), (Instr.field 30 (.agg #[.int .i64 q, .int .i64 u, .slice p n c]) 2).run Try.prog W = .ok (.slice p n c) W := fun _ _ _ _ _ _ => by kernel_rfl
  have HDa : Hid (∀ X, Below w.heap.size w X → Calls Try.prog 20 #[.slice a n c] X fun e w' => DaPost X e w') := fun X g => drawAppendLog_any a n c zs X (rd.below g (Nat.le_refl _)) hn hm hz
  go_enter Try.func3, Try.ntmps3
  go_wp2_with fail
  refine (lwBig_small a n c _ hm).mono ?_
  rintro e w0 ⟨rfl, h0⟩
  rw [h0]
  clear h0 w0
  go_wp2_with fail
  refine (drawPackAll_any a n c zs _ rd hn hm hz).mono ?_
  rintro e w1 ⟨la, m, lc, R, D, rfl, hm6, hL, hOk, g1⟩
  clear rd hn hm hz
  have hsz := szR_max m hOk
  have HBd : Hid (∀ i, i < m → ∀ j, j < (R i).n → ∀ z ∈ (R i).Z j, 0 ≤ z ∧ z ≤ 255) := fun i hi => (hOk i hi).bd
  have HSm : Hid (∀ i, i < m → (R i).n ≤ 1048576 ∧ ∀ j, j < (R i).n → ∀ z ∈ (R i).Z j, 0 ≤ z ∧ z ≤ 255) := fun i hi => ⟨by have := (hOk i hi).few; omega, (hOk i hi).bd⟩
  have HPa : Hid (∀ X, RecsRead X la m R D → Calls Try.prog 18 #[.slice la m lc] X fun e w' => PaPost X (paQ R m) (paA R m) e w') := fun X h => specPackAll_any la m lc R D X (by omega) HBd.out h
  go_wp2_with fail
  refine (implPackAll_any la m lc R D w1 (by omega) HBd.out hL).mono ?_
  rintro e w2 ⟨pa, pc, rfl, g2, hPb, hp1, hp2⟩
  have hL := hL.below g2 (Nat.le_refl _)
  have g1 := g1.trans (g2.mono g1.size)
  have hPr := hPb.reads
  clear g2 hPb hOk hsz
  go_upto_region 5 with (fail)
  generalize hY : World.alloc w2 _ = Y
  have gY : Below w2.heap.size w2 Y := by rw [← hY]; go_grown
  have C0 : Y.cell? ⟨w2.heap.size, 0, none⟩ = some (.int .i64 (paQ R m)) := by rw [← hY]; simp [go_sem]
  have C1 : Y.cell? ⟨w2.heap.size, 1, none⟩ = some (.slice pa (paA R m).length pc) := by rw [← hY]; simp [go_sem]
  have hL := hL.below gY (Nat.le_refl _)
  have hPr := hPr.below gY (Nat.le_refl _)
  have g1 := g1.trans (gY.mono g1.size)
  generalize w2.heap.size = bp at C0 C1 ⊢
  clear hY gY
  have HBk : Hid (paQ R m = 0 → _) := pa_back (R := R) (m := m)
  have HBb : Hid (∀ z ∈ paB R m, 0 ≤ z ∧ z ≤ 255) := paB_bd m HBd.out
  generalize hqq : paQ R m = q at *
  by_cases hq : q = 0
  · subst hq
    obtain ⟨hA, b1, b2, b3, b4, b5⟩ := HBk.out rfl
    rw [hA] at C1 hPr hp1
    clear HBk HPa hqq hA
    obtain ⟨B, hB⟩ : ∃ B, paB R m = B := ⟨_, rfl⟩
    rw [hB] at C1 hPr hp1 b1 b2 b3 b4 b5 HBb
    clear hB
    have HSr : Hid (sameQ m m (lgR B) R = true) := b4
    have HRb : Hid (∀ X, Reads X pa B → Calls Try.prog 19 #[.slice pa B.length pc] X fun e w' => RlPost X B e w') := fun X h => implReadLog_any B pa pc X (by omega) hp1 hp2 h HBb.out
    go_wp2_with fail
    refine (HRb.out _ hPr).mono ?_
    rintro e w3 ⟨ra, rc, Dr', rfl, g3, hO3, hr1, hr2⟩
    rw [b1, b2, b3]
    rw [b3] at hO3 hr1
    have hRr := hO3.recs
    have hL := hL.below g3 (Nat.le_refl _)
    have hPr := hPr.below g3 (Nat.le_refl _)
    have C0 := cellUp g3 C0
    have C1 := cellUp g3 C1
    have g1 := g1.trans (g3.mono g1.size)
    clear g3 hO3 HRb b1 b2 b3 b4
    go_upto_region 8 with (fail)
    generalize hY : World.alloc w3 _ = Y3
    have gY : Below w3.heap.size w3 Y3 := by rw [← hY]; go_grown
    have E0 : Y3.cell? ⟨w3.heap.size, 0, none⟩ = some (.int .i64 0) := by rw [← hY]; simp [go_sem]
    have E1 : Y3.cell? ⟨w3.heap.size, 1, none⟩ = some (.int .i64 (B.length : Nat)) := by rw [← hY]; simp [go_sem]
    have E2 : Y3.cell? ⟨w3.heap.size, 2, none⟩ = some (.slice ra m rc) := by rw [← hY]; simp [go_sem]
    have hL := hL.below gY (Nat.le_refl _)
    have hRr := hRr.below gY (Nat.le_refl _)
    have C1 := cellUp gY C1
    have g1 := g1.trans (gY.mono g1.size)
    generalize w3.heap.size = br at E0 E1 E2 ⊢
    clear hY gY C0 hPr
    go_wp2_with fail
    refine (HDa.out _ g1).mono ?_
    rintro e w4 ⟨x, y, xs, ys, nn, cc, mm, d, k, tx, pg, aa, l, ec, P, A, C, Z, rfl, hB, hOk, hRn, g4⟩
    obtain ⟨hxl, hyl, hc1, hc2, hd1, hd2, hbx, hby, hxb, hyb, hsz, hxn⟩ := hB
    subst hxl hyl
    have rx := hbx.reads
    have ry := hby.reads
    have hL := hL.below g4 (Nat.le_refl _)
    have hRr := hRr.below g4 (Nat.le_refl _)
    have C1 := cellUp g4 C1
    have E0 := cellUp g4 E0
    have E1 := cellUp g4 E1
    have E2 := cellUp g4 E2
    have g1 := g1.trans (g4.mono g1.size)
    clear g4 hbx hby HDa
    go_upto_region 9 with (fail)
    generalize hY : World.alloc (World.alloc w4 _) _ = Y4
    have gY : Below w4.heap.size w4 Y4 := by rw [← hY]; go_grown
    have hLg : LgAt Y4 w4.heap.size x xs.length cc y ys.length d := by rw [← hY]; exact ⟨by simp [go_sem], by simp [go_sem]⟩
    have hRc : RcAt Y4 (w4.heap.size + 1) k tx pg aa l ec := by rw [← hY]; exact ⟨by simp [go_sem], by simp [go_sem], by simp [go_sem], by simp [go_sem]⟩
    have hL := hL.below gY (Nat.le_refl _)
    have hRr := hRr.below gY (Nat.le_refl _)
    have C1 := cellUp gY C1
    have E0 := cellUp gY E0
    have E1 := cellUp gY E1
    have E2 := cellUp gY E2
    have rx := rx.below gY (Nat.le_refl _)
    have ry := ry.below gY (Nat.le_refl _)
    have hRn := hRn.below gY (Nat.le_refl _)
    have g1 := g1.trans (gY.mono g1.size)
    generalize w4.heap.size + 1 = bx at hRc ⊢
    generalize w4.heap.size = bl at hLg ⊢
    clear hY gY
    obtain ⟨r, hr⟩ : ∃ r : Rc, r = ⟨k, tx, pg, l, P, Z⟩ := ⟨_, rfl⟩
    have HI : Hid (∀ X, Reads X x xs → Reads X y ys → RunsRead X aa l P A C Z → Calls Try.prog 21 #[.agg #[.slice x xs.length cc, .slice y ys.length d], .agg #[.int .i64 k, .int .i64 tx, .int .i64 pg, .slice aa l ec]] X fun e w' => LgPost X (alQ xs ys (rcQ r) (rcB r)) (alS xs ys (rcQ r) (rcB r)) (alL xs ys (rcQ r) (rcB r)) e w') := fun X h1 h2 h3 => by
      rw [hr]
      exact implAppendLog_any x y xs ys cc d k tx pg aa l ec P A C Z X (by omega) (by omega) hc1 hd1 hc2 hd2 h1 h2 hxb hyb hxn (by have := hOk.few; omega) (fun i hi => by have := hOk.len i hi; omega) hOk.bd h3
    have HP : Hid (∀ X, Reads X x xs → Reads X y ys → RunsRead X aa l P A C Z → Calls Try.prog 22 #[.agg #[.slice x xs.length cc, .slice y ys.length d], .agg #[.int .i64 k, .int .i64 tx, .int .i64 pg, .slice aa l ec]] X fun e w' => LgPost X (alQ xs ys (rcQ r) (rcB r)) (alS xs ys (rcQ r) (rcB r)) (alL xs ys (rcQ r) (rcB r)) e w') := fun X h1 h2 h3 => by
      rw [hr]
      exact specAppendLog_any x y xs ys cc d k tx pg aa l ec P A C Z X (by omega) (by omega) hc1 hd1 hc2 hd2 h1 h2 hxb hyb (by have := hOk.few; omega) (fun i hi => by have := hOk.len i hi; omega) hOk.bd h3
    have HAp : Hid (alQ xs ys (rcQ r) (rcB r) = 0 → _) := app_back (xs := xs) (ys := ys) (r := r)
    have HRb : Hid (∀ z ∈ rcB r, 0 ≤ z ∧ z ≤ 255) := rcB_bd (by rw [hr]; exact hOk.bd)
    have HR : Hid (r = ⟨k, tx, pg, l, P, Z⟩) := hr
    generalize alQ xs ys (rcQ r) (rcB r) = q2 at HI HP HAp
    generalize alS xs ys (rcQ r) (rcB r) = us at HI HP HAp
    generalize alL xs ys (rcQ r) (rcB r) = vs at HI HP HAp
    clear hr
    obtain ⟨L0, L1⟩ := hLg
    obtain ⟨R0, R1, R2, R3⟩ := hRc
    have hLg : LgAt Y4 bl x xs.length cc y ys.length d := ⟨L0, L1⟩
    have hRc : RcAt Y4 bx k tx pg aa l ec := ⟨R0, R1, R2, R3⟩
    go_wp2_with fail
    refine (HI.out _ rx ry hRn).mono ?_
    rintro e w5 ⟨p5, c5, r5, d5, mid, rfl, hv1, hv2, hv3, hv4, g5, hLi⟩
    have hu := hLi.s.reads
    have hv := hLi.l.reads
    clear L0 L1 R0 R1 R2 R3 hLi HI
    go_upto_region 10 with (fail)
    generalize hY : World.alloc w5 _ = Y5
    have gY : Below w5.heap.size w5 Y5 := by rw [← hY]; go_grown
    have A0 : Y5.cell? ⟨w5.heap.size, 0, none⟩ = some (.int .i64 q2) := by rw [← hY]; simp [go_sem]
    have A1 : Y5.cell? ⟨w5.heap.size, 1, none⟩ = some (.slice p5 us.length c5) := by rw [← hY]; simp [go_sem]
    have A2 : Y5.cell? ⟨w5.heap.size, 2, none⟩ = some (.slice r5 vs.length d5) := by rw [← hY]; simp [go_sem]
    generalize w5.heap.size = ba at A0 A1 A2 ⊢
    have hu := hu.below gY (Nat.le_refl _)
    have hv := hv.below gY (Nat.le_refl _)
    have g5Y := g5.trans (gY.mono g5.size)
    clear hY
    obtain ⟨F, hFd⟩ : ∃ F : World → Prop, F = fun V => (RecsRead V la m R D) ∧ (RecsRead V ra m (lgR B) Dr') ∧ (V.cell? ⟨bp, 1, none⟩ = some (.slice pa B.length pc)) ∧ (V.cell? ⟨br, 0, none⟩ = some (.int .i64 0)) ∧ (V.cell? ⟨br, 1, none⟩ = some (.int .i64 (B.length : Nat))) ∧ (V.cell? ⟨br, 2, none⟩ = some (.slice ra m rc)) ∧ (LgAt V bl x xs.length cc y ys.length d) ∧ (RcAt V bx k tx pg aa l ec) ∧ (Reads V x xs) ∧ (Reads V y ys) ∧ (RunsRead V aa l P A C Z) ∧ (V.cell? ⟨ba, 0, none⟩ = some (.int .i64 q2)) ∧ (V.cell? ⟨ba, 1, none⟩ = some (.slice p5 us.length c5)) ∧ (V.cell? ⟨ba, 2, none⟩ = some (.slice r5 vs.length d5)) ∧ (Reads V p5 us) ∧ (Reads V r5 vs) ∧ (Below w.heap.size w V) := ⟨_, rfl⟩
    have hF : F Y5 := by rw [hFd]; exact ⟨hL.below g5Y (Nat.le_refl _), hRr.below g5Y (Nat.le_refl _), cellUp g5Y C1, cellUp g5Y E0, cellUp g5Y E1, cellUp g5Y E2, hLg.up g5Y, hRc.up g5Y, rx.below g5Y (Nat.le_refl _), ry.below g5Y (Nat.le_refl _), hRn.below g5Y (Nat.le_refl _), A0, A1, A2, hu, hv, g1.trans (g5Y.mono g1.size)⟩
    have HFU : Hid (∀ V W, Below V.heap.size V W → F V → F W) := fun V W hb h => by
      rw [hFd] at h ⊢
      exact ⟨h.1.below hb (Nat.le_refl _), h.2.1.below hb (Nat.le_refl _), cellUp hb h.2.2.1, cellUp hb h.2.2.2.1, cellUp hb h.2.2.2.2.1, cellUp hb h.2.2.2.2.2.1, h.2.2.2.2.2.2.1.up hb, h.2.2.2.2.2.2.2.1.up hb, h.2.2.2.2.2.2.2.2.1.below hb (Nat.le_refl _), h.2.2.2.2.2.2.2.2.2.1.below hb (Nat.le_refl _), h.2.2.2.2.2.2.2.2.2.2.1.below hb (Nat.le_refl _), cellUp hb h.2.2.2.2.2.2.2.2.2.2.2.1, cellUp hb h.2.2.2.2.2.2.2.2.2.2.2.2.1, cellUp hb h.2.2.2.2.2.2.2.2.2.2.2.2.2.1, h.2.2.2.2.2.2.2.2.2.2.2.2.2.2.1.below hb (Nat.le_refl _), h.2.2.2.2.2.2.2.2.2.2.2.2.2.2.2.1.below hb (Nat.le_refl _), h.2.2.2.2.2.2.2.2.2.2.2.2.2.2.2.2.trans (hb.mono h.2.2.2.2.2.2.2.2.2.2.2.2.2.2.2.2.size)⟩
    have FL : Hid (∀ V, F V → RecsRead V la m R D) := fun V h => by rw [hFd] at h; exact h.1
    have FRr : Hid (∀ V, F V → RecsRead V ra m (lgR B) Dr') := fun V h => by rw [hFd] at h; exact h.2.1
    have FC1 : Hid (∀ V, F V → V.cell? ⟨bp, 1, none⟩ = some (.slice pa B.length pc)) := fun V h => by rw [hFd] at h; exact h.2.2.1
    have FE0 : Hid (∀ V, F V → V.cell? ⟨br, 0, none⟩ = some (.int .i64 0)) := fun V h => by rw [hFd] at h; exact h.2.2.2.1
    have FE1 : Hid (∀ V, F V → V.cell? ⟨br, 1, none⟩ = some (.int .i64 (B.length : Nat))) := fun V h => by rw [hFd] at h; exact h.2.2.2.2.1
    have FE2 : Hid (∀ V, F V → V.cell? ⟨br, 2, none⟩ = some (.slice ra m rc)) := fun V h => by rw [hFd] at h; exact h.2.2.2.2.2.1
    have FLg : Hid (∀ V, F V → LgAt V bl x xs.length cc y ys.length d) := fun V h => by rw [hFd] at h; exact h.2.2.2.2.2.2.1
    have FRc : Hid (∀ V, F V → RcAt V bx k tx pg aa l ec) := fun V h => by rw [hFd] at h; exact h.2.2.2.2.2.2.2.1
    have FX : Hid (∀ V, F V → Reads V x xs) := fun V h => by rw [hFd] at h; exact h.2.2.2.2.2.2.2.2.1
    have FY : Hid (∀ V, F V → Reads V y ys) := fun V h => by rw [hFd] at h; exact h.2.2.2.2.2.2.2.2.2.1
    have FRn : Hid (∀ V, F V → RunsRead V aa l P A C Z) := fun V h => by rw [hFd] at h; exact h.2.2.2.2.2.2.2.2.2.2.1
    have FA0 : Hid (∀ V, F V → V.cell? ⟨ba, 0, none⟩ = some (.int .i64 q2)) := fun V h => by rw [hFd] at h; exact h.2.2.2.2.2.2.2.2.2.2.2.1
    have FA1 : Hid (∀ V, F V → V.cell? ⟨ba, 1, none⟩ = some (.slice p5 us.length c5)) := fun V h => by rw [hFd] at h; exact h.2.2.2.2.2.2.2.2.2.2.2.2.1
    have FA2 : Hid (∀ V, F V → V.cell? ⟨ba, 2, none⟩ = some (.slice r5 vs.length d5)) := fun V h => by rw [hFd] at h; exact h.2.2.2.2.2.2.2.2.2.2.2.2.2.1
    have FU : Hid (∀ V, F V → Reads V p5 us) := fun V h => by rw [hFd] at h; exact h.2.2.2.2.2.2.2.2.2.2.2.2.2.2.1
    have FV5 : Hid (∀ V, F V → Reads V r5 vs) := fun V h => by rw [hFd] at h; exact h.2.2.2.2.2.2.2.2.2.2.2.2.2.2.2.1
    have FG : Hid (∀ V, F V → Below w.heap.size w V) := fun V h => by rw [hFd] at h; exact h.2.2.2.2.2.2.2.2.2.2.2.2.2.2.2.2
    clear hFd
    clear hL hRr C1 E0 E1 E2 hLg hRc rx ry hRn A0 A1 A2 hu hv g1 g5Y g5 gY
    refine wp_region_held_drew (S := F) (by kernel_rfl) (HFU.out _ _ (Below.refl _ Y5).drew hF) (fun hHeld => ?_)
    generalize Y5.drew = W at hHeld ⊢
    clear hF
    refine wpAnyH_take (i := 0) (v := ?v7) rfl (by kernel_rfl) (by kernel_rfl) (by kernel_rfl) (fun _ _ _ h => h) (Or.inl ⟨by kernel_rfl, ?h7⟩) hHeld ?_
    case h7 => intro u hSw; (try dsimp only at hSw); go_simp; try with_reducible rfl
    try simp only [List.getElem_toArray]
    try simp only [List.getElem_cons_succ]
    try simp only [List.getElem_cons_zero]
    try simp only [Act.put]
    try simp only [List.setIfInBounds_toArray]
    try simp only [List.set]
    refine wpAnyH_take (i := 2) (v := ?v8) rfl (by kernel_rfl) (by kernel_rfl) (by kernel_rfl) (fun _ _ _ h => h) (Or.inl ⟨by kernel_rfl, ?h8⟩) hHeld ?_
    case h8 => intro u hSw; obtain ⟨q0, q1⟩ := FLg.out _ hSw; clear hSw; go_simp; try with_reducible rfl
    try simp only [List.getElem_toArray]
    try simp only [List.getElem_cons_succ]
    try simp only [List.getElem_cons_zero]
    try simp only [Act.put]
    try simp only [List.setIfInBounds_toArray]
    try simp only [List.set]
    refine wpAnyH_take (i := 3) (v := ?v9) rfl (by kernel_rfl) (by kernel_rfl) (by kernel_rfl) (fun _ _ _ h => h) (Or.inl ⟨by kernel_rfl, ?h9⟩) hHeld ?_
    case h9 => intro u hSw; obtain ⟨q0, q1, q3, q4⟩ := FRc.out _ hSw; clear hSw; go_simp; try with_reducible rfl
    try simp only [List.getElem_toArray]
    try simp only [List.getElem_cons_succ]
    try simp only [List.getElem_cons_zero]
    try simp only [Act.put]
    try simp only [List.setIfInBounds_toArray]
    try simp only [List.set]
    refine wpAnyH_take (i := 1) (v := ?v10) rfl (by kernel_rfl) (by kernel_rfl) (by kernel_rfl) (fun _ _ _ h => h) (Or.inl ⟨by kernel_rfl, ?h10⟩) hHeld ?_
    case h10 => intro u hSw; have q0 := FA0.out _ hSw; clear hSw; go_simp; try with_reducible rfl
    try simp only [List.getElem_toArray]
    try simp only [List.getElem_cons_succ]
    try simp only [List.getElem_cons_zero]
    try simp only [Act.put]
    try simp only [List.setIfInBounds_toArray]
    try simp only [List.set]
    refine wpAnyH_ready (rs := [4]) (by kernel_rfl) (by simp) ?_
    refine AllReadyH.cons rfl (fun K hK => ?_) AllReadyH.nil
    go_simp
    go_wp2_with (go_at_call 22; refine (HP.out _ (FX.out _ hHeld) (FY.out _ hHeld) (FRn.out _ hHeld)).mono ?_; rintro e w6 ⟨p6, c6, r6, d6, m6, rfl, _, _, _, _, hb, _⟩)
    refine hK.out _ _ (HFU.out _ _ hb hHeld) (fun hHeld => ?_)
    clear hK K
    clear hb
    try simp only [Act.put]
    try simp only [List.setIfInBounds_toArray]
    try simp only [List.set]
    refine wpAnyH_take (i := 5) (v := ?v11) rfl (by kernel_rfl) (by kernel_rfl) (by kernel_rfl) (fun _ _ _ h => h) (Or.inl ⟨by kernel_rfl, ?h11⟩) hHeld ?_
    case h11 => intro u hSw; (try dsimp only at hSw); go_simp; try with_reducible rfl
    try simp only [List.getElem_toArray]
    try simp only [List.getElem_cons_succ]
    try simp only [List.getElem_cons_zero]
    try simp only [Act.put]
    try simp only [List.setIfInBounds_toArray]
    try simp only [List.set]
    refine wpAnyH_take (i := 6) (v := ?v12) rfl (by kernel_rfl) (by kernel_rfl) (by kernel_rfl) (fun _ _ _ h => h) (Or.inl ⟨by kernel_rfl, ?h12⟩) hHeld ?_
    case h12 => intro u hSw; (try dsimp only at hSw); go_simp; try with_reducible rfl
    try simp only [List.getElem_toArray]
    try simp only [List.getElem_cons_succ]
    try simp only [List.getElem_cons_zero]
    try simp only [Act.put]
    try simp only [List.setIfInBounds_toArray]
    try simp only [List.set]
    refine wpAnyH_done (by kernel_rfl) ?_ _
    have hF := hHeld
    clear hHeld HP
    generalize w6 = W6 at hF ⊢
    have A0 := FA0.out _ hF
    by_cases hq2 : q2 = 0
    · subst hq2
      obtain ⟨N, e1, e2, e3, e4, e5, e6, e7, e8, e9⟩ := HAp.out rfl
      clear HAp
      rw [← e2] at e4 e5 e6 e7 e8 e9
      rw [← e1] at e7 e8
      rw [show xs ++ vs = us ++ vs by rw [e1]] at e4 e5 e6 e9
      have HVb : Hid (∀ z ∈ us ++ vs, 0 ≤ z ∧ z ≤ 255) := fun z hz => by
        rw [e1, e2] at hz
        rcases List.mem_append.1 hz with h | h
        · exact hxb z h
        · rcases List.mem_append.1 h with h | h
          · exact hyb z h
          · exact HRb.out z h
      have hul : us.length + vs.length ≤ 16000 := by rw [← List.length_append]; exact e9
      have HUb : Hid ((∀ z ∈ us, 0 ≤ z ∧ z ≤ 255) ∧ ∀ z ∈ vs, 0 ≤ z ∧ z ≤ 255) := ⟨fun z hz => HVb.out z (List.mem_append_left _ hz), fun z hz => HVb.out z (List.mem_append_right _ hz)⟩
      have HAb : Hid (∀ z ∈ xs ++ ys, 0 ≤ z ∧ z ≤ 255) := fun z hz => by
        rcases List.mem_append.1 hz with h | h
        · exact hxb z h
        · exact hyb z h
      have HSy : Hid (∀ X, Reads X p5 us → Reads X r5 vs → Calls Try.prog 23 #[.agg #[.slice p5 us.length c5, .slice r5 vs.length d5]] X fun e w' => LgPost X 0 (us ++ vs) [] e w') := fun X h1 h2 => by
        have h := implSyncLog_any p5 r5 us vs c5 d5 X (by omega) (by omega) hv1 hv2 hv3 hv4 h1 h2 HUb.out.1 HUb.out.2
        rw [e7, e8] at h
        exact h
      have hall : (xs ++ ys).length ≤ 18000 := by rw [List.length_append]; omega
      clear e1 e2 e7 e8 hxb hyb HRb
      obtain ⟨al, hal⟩ : ∃ al, xs ++ ys = al := ⟨_, rfl⟩
      rw [hal] at e3 e5 HAb hall
      have HAl : Hid (xs ++ ys = al) := hal
      obtain ⟨nw, hnw⟩ : ∃ nw, us ++ vs = nw := ⟨_, rfl⟩
      rw [hnw] at e4 e5 e6 e9 HVb HSy
      have HNw : Hid (us ++ vs = nw) := hnw
      clear hal hnw
      have HRl : Hid (∀ (X : World) (pz : Option Addr) (cz : Nat), al.length ≤ cz → cz ≤ 9223372036854775807 → Reads X pz al → Calls Try.prog 19 #[.slice pz al.length cz] X fun e w' => RlPost X al e w') := fun X pz cz h1 h2 h => implReadLog_any al pz cz X (by omega) h1 h2 h HAb.out
      have HRn : Hid (∀ (X : World) (pz : Option Addr) (cz : Nat), nw.length ≤ cz → cz ≤ 9223372036854775807 → Reads X pz nw → Calls Try.prog 19 #[.slice pz nw.length cz] X fun e w' => RlPost X nw e w') := fun X pz cz h1 h2 h => implReadLog_any nw pz cz X (by omega) h1 h2 h HVb.out
      have H5 : Hid (sameQ N N (lgR nw) (lgR al) = true) := e5
      have H6 : Hid (sameQ 1 1 (fun i => lgR nw (N + i)) (fun _ => r) = true) := e6
      have H3 : Hid (rlN al = N) := e3
      have H4 : Hid (rlN nw = N + 1) := e4
      clear e3 e4 e5 e6 e9 hall
      go_upto_region 13 with (fail)
      clear A0
      go_cut [9] from 13 (fun s6 wc => ∃ (b6 : Nat) (ya : Option Addr) (ca : Nat) (Da : Nat → Ad), s6 = .pointer (some ⟨b6, 0, none⟩) ∧ F wc ∧ wc.cell? ⟨b6, 2, none⟩ = some (.slice ya (rlN al) ca) ∧ RecsRead wc ya (rlN al) (lgR al) Da ∧ rlN al ≤ ca ∧ ca ≤ 9223372036854775807)
      case first =>
        refine wp_region_held_drew (S := F) (by kernel_rfl) (HFU.out _ _ (Below.refl _ W6).drew hF) (fun hHeld => ?_)
        generalize W6.drew = Dd at hHeld ⊢
        clear hF
        obtain ⟨D0, hD0⟩ : ∃ D0, D0 = Dd.heap.size := ⟨_, rfl⟩
        have HUp : Hid (∀ V, Below D0 Dd V → F V) := fun V g => HFU.out _ _ (by rw [← hD0]; exact g) hHeld
        have gD : Below D0 Dd Dd := Below.refl _ _
        have hDs : D0 ≤ Dd.heap.size := Nat.le_of_eq hD0
        clear hD0
        clear FL FRr FC1 FE0 FE1 FE2 FRc FRn FA0 FA1 FA2 FU FV5 FG HSr HSm HBb HBd HVb HUb HAb HSy HRn H5 H6 H3 H4 HNw HR hOk hf27 hf40 hf30
        refine wpAnyH_take (i := 1) (v := ?v13) rfl (by kernel_rfl) (by kernel_rfl) (by kernel_rfl) (fun _ _ _ h => h) (Or.inl ⟨by kernel_rfl, ?h13⟩) hHeld ?_
        case h13 => intro u hSw; (try dsimp only at hSw); go_simp; try with_reducible rfl
        try simp only [List.getElem_toArray]
        try simp only [List.getElem_cons_succ]
        try simp only [List.getElem_cons_zero]
        try simp only [Act.put]
        try simp only [List.setIfInBounds_toArray]
        try simp only [List.set]
        refine wpAnyH_take (i := 2) (v := ?v14) rfl (by kernel_rfl) (by kernel_rfl) (by kernel_rfl) (fun _ _ _ h => h) (Or.inl ⟨by kernel_rfl, ?h14⟩) hHeld ?_
        case h14 => intro u hSw; obtain ⟨q0, q1⟩ := FLg.out _ hSw; clear hSw; go_simp; try with_reducible rfl
        try simp only [List.getElem_toArray]
        try simp only [List.getElem_cons_succ]
        try simp only [List.getElem_cons_zero]
        try simp only [Act.put]
        try simp only [List.setIfInBounds_toArray]
        try simp only [List.set]
        refine wpAnyH_take (i := 4) (v := ?v15) rfl (by kernel_rfl) (by kernel_rfl) (by kernel_rfl) (fun _ _ _ h => h) (Or.inl ⟨by kernel_rfl, ?h15⟩) hHeld ?_
        case h15 => intro u hSw; (try dsimp only at hSw); go_simp; try with_reducible rfl
        try simp only [List.getElem_toArray]
        try simp only [List.getElem_cons_succ]
        try simp only [List.getElem_cons_zero]
        try simp only [Act.put]
        try simp only [List.setIfInBounds_toArray]
        try simp only [List.set]
        refine wpAnyH_take (i := 5) (v := ?v16) rfl (by kernel_rfl) (by kernel_rfl) (by kernel_rfl) (fun _ _ _ h => h) (Or.inl ⟨by kernel_rfl, ?h16⟩) hHeld ?_
        case h16 => intro u hSw; obtain ⟨q0, q1⟩ := FLg.out _ hSw; clear hSw; go_simp; try with_reducible rfl
        try simp only [List.getElem_toArray]
        try simp only [List.getElem_cons_succ]
        try simp only [List.getElem_cons_zero]
        try simp only [Act.put]
        try simp only [List.setIfInBounds_toArray]
        try simp only [List.set]
        refine wpAnyH_ready (rs := [0, 8]) (by kernel_rfl) (by simp) ?_
        refine AllReadyH.cons rfl (fun K hK => ?_) (AllReadyH.cons rfl (fun K hK => ?_) AllReadyH.nil)
        · have gg : Below Dd.heap.size Dd (Dd.alloc (.cells #[] 5)) := by go_grown
          have hG : Gb Dd.heap.size (Dd.alloc (.cells #[] 5)) (.slice (some ⟨Dd.heap.size, 0, none⟩) 0 0) [] := Gb.lit _ _ (Nat.le_refl _)
          have hG := hG.low (Nat.le_trans hDs gD.size)
          have gD := gD.trans (gg.mono (Nat.le_trans hDs gD.size))
          go_simp
          refine hK.out _ _ (HUp.out _ gD) (fun hHeld => ?_)
          clear hK K gg
          generalize (Dd.alloc (.cells #[] 5)) = W1q at hHeld gD hG ⊢
          generalize Dd.heap.size = bb at hG ⊢
          try simp only [Act.put]
          try simp only [List.setIfInBounds_toArray]
          try simp only [List.set]
          refine wpAnyH_ready (rs := [3, 8]) (by kernel_rfl) (by simp) ?_
          refine AllReadyH.cons rfl (fun K hK => ?_) (AllReadyH.cons rfl (fun K hK => ?_) AllReadyH.nil)
          · refine wp_append_bytes _ _ _ rfl D0 (.slice (some ⟨bb, 0, none⟩) 0 0) [] xs x xs.length cc rfl rfl rfl hG (FX.out _ ( (HUp.out _ gD))) (by simp; omega) (Nat.le_trans hDs gD.size) ?_
            intro v4 W2q hG' hgr hat
            have gD' : Below D0 Dd W2q := Below.grown gD hgr (Nat.le_trans hDs gD.size) (fun q e => (World.ownsRow.lt hG q e).1)
            have hG := hG'
            have gD := gD'
            clear hG' gD' hgr hat
            refine hK.out _ _ (HUp.out _ gD) (fun hHeld => ?_)
            clear hK K
            try simp only [Act.put]
            try simp only [List.setIfInBounds_toArray]
            try simp only [List.set]
            refine wpAnyH_ready (rs := [6, 8]) (by kernel_rfl) (by simp) ?_
            refine AllReadyH.cons rfl (fun K hK => ?_) (AllReadyH.cons rfl (fun K hK => ?_) AllReadyH.nil)
            · refine wp_append_bytes _ _ _ rfl D0 v4 ([] ++ xs) ys y ys.length d rfl rfl rfl hG (FY.out _ ( (HUp.out _ gD))) (by simp; omega) (Nat.le_trans hDs gD.size) ?_
              intro v5 W3q hG' hgr hat
              have gD' : Below D0 Dd W3q := Below.grown gD hgr (Nat.le_trans hDs gD.size) (fun q e => (World.ownsRow.lt hG q e).1)
              have hG := hG'
              have gD := gD'
              clear hG' gD' hgr hat
              refine hK.out _ _ (HUp.out _ gD) (fun hHeld => ?_)
              clear hK K
              try simp only [Act.put]
              try simp only [List.setIfInBounds_toArray]
              try simp only [List.set]
              refine wpAnyH_ready (rs := [7, 8]) (by kernel_rfl) (by simp) ?_
              refine AllReadyH.cons rfl (fun K hK => ?_) (AllReadyH.cons rfl (fun K hK => ?_) AllReadyH.nil)
              · have hG : Gb D0 W3q v5 al := by have h := hG; rw [List.nil_append, HAl.out] at h; exact h
                obtain ⟨pz, cz, hvz, hz1, hz2, hzb, _⟩ := hG.shape
                subst hvz
                have hzr := hzb.reads
                clear hG hzb
                go_simp
                go_wp2_with (go_at_call 19; refine (HRl.out _ _ _ hz1 hz2 hzr).mono ?_; rintro e W4q ⟨ya, ca, Da, rfl, gg, hO, hca, hca2⟩)
                have gD := gD.trans (gg.mono (Nat.le_trans hDs gD.size))
                have hle : W4q.heap.size ≤ W4q.heap.size := Nat.le_refl _
                refine hK.out _ _ (HUp.out _ gD) (fun hHeld => ?_)
                clear hK K gg
                obtain ⟨lo, hi, hO, hle⟩ : ∃ lo hi, OwnRS lo hi W4q ya (rlN al) (lgR al) Da ∧ hi ≤ W4q.heap.size := ⟨_, _, hO, hle⟩
                try simp only [Act.put]
                try simp only [List.setIfInBounds_toArray]
                try simp only [List.set]
                refine wpAnyH_ready (rs := [8]) (by kernel_rfl) (by simp) ?_
                refine AllReadyH.cons rfl (fun K hK => ?_) AllReadyH.nil
                have gg : Below W4q.heap.size W4q (W4q.alloc (.cells #[.int .i64 0, .int .i64 0, .slice none 0 0] 30)) := by go_grown
                have hab : D0 ≤ W4q.heap.size := Nat.le_trans hDs gD.size
                have hN : N3 (W4q.alloc (.cells #[.int .i64 0, .int .i64 0, .slice none 0 0] 30)) W4q.heap.size := ⟨by simp [go_sem], by simp [go_sem], by simp [go_sem], by simp [go_sem], by simp [go_sem], by simp [go_sem]⟩
                have hpos : hi ≤ W4q.heap.size ∨ W4q.heap.size + 1 ≤ lo := .inl hle
                have hO := hO.below gg
                have gD := gD.trans (gg.mono (Nat.le_trans hDs gD.size))
                go_simp
                refine hK.out _ _ (HUp.out _ gD) (fun hHeld => ?_)
                clear hK K gg
                generalize W4q.alloc (.cells #[.int .i64 0, .int .i64 0, .slice none 0 0] 30) = W5q at hHeld hN gD hO ⊢
                generalize W4q.heap.size = ab at hN hab hpos ⊢
                try simp only [Act.put]
                try simp only [List.setIfInBounds_toArray]
                try simp only [List.set]
                have T : Turned ab (ab + 1) W5q (((W5q.setCell ⟨ab, 0, none⟩ (.int .i64 (rlQ al))).setCell ⟨ab, 1, none⟩ (.int .i64 (rlU al))).setCell ⟨ab, 2, none⟩ (.slice ya (rlN al) ca)) := (((Turned.refl _ _ W5q).setCell (p := ⟨ab, 0, none⟩) (Nat.le_refl _) (Nat.lt_succ_self _) _).setCell (p := ⟨ab, 1, none⟩) (Nat.le_refl _) (Nat.lt_succ_self _) _).setCell (p := ⟨ab, 2, none⟩) (Nat.le_refl _) (Nat.lt_succ_self _) _
                have gE : Below D0 Dd (((W5q.setCell ⟨ab, 0, none⟩ (.int .i64 (rlQ al))).setCell ⟨ab, 1, none⟩ (.int .i64 (rlU al))).setCell ⟨ab, 2, none⟩ (.slice ya (rlN al) ca)) := gD.trans (T.toBelow (Nat.le_trans hDs gD.size) hab)
                have HE : Hid (F (((W5q.setCell ⟨ab, 0, none⟩ (.int .i64 (rlQ al))).setCell ⟨ab, 1, none⟩ (.int .i64 (rlU al))).setCell ⟨ab, 2, none⟩ (.slice ya (rlN al) ca))) := HUp.out _ gE
                have HO : Hid (RecsRead (((W5q.setCell ⟨ab, 0, none⟩ (.int .i64 (rlQ al))).setCell ⟨ab, 1, none⟩ (.int .i64 (rlU al))).setCell ⟨ab, 2, none⟩ (.slice ya (rlN al) ca)) ya (rlN al) (lgR al) Da) := (hO.turned T hpos).recs
                obtain ⟨a0, a1, a2, f0, f1, f2⟩ := hN
                have HC2 : Hid ((((W5q.setCell ⟨ab, 0, none⟩ (.int .i64 (rlQ al))).setCell ⟨ab, 1, none⟩ (.int .i64 (rlU al))).setCell ⟨ab, 2, none⟩ (.slice ya (rlN al) ca)).cell? ⟨ab, 2, none⟩ = some (.slice ya (rlN al) ca)) := World.cell?_setCell_same _ _ _ (by rw [World.cell?_setCell_other _ _ _ _ (by simp), World.cell?_setCell_other _ _ _ _ (by simp)]; exact a2)
                refine wpAnyH_ready (rs := [9]) (by kernel_rfl) (by simp) ?_
                refine AllReadyH.cons rfl (fun K hK => ?_) AllReadyH.nil
                go_simp
                refine hK.out _ _ HE.out (fun hHeld => ?_)
                clear hK K
                try simp only [Act.put]
                try simp only [List.setIfInBounds_toArray]
                try simp only [List.set]
                refine wpAnyH_done (by kernel_rfl) ?_ _
                go_wp2_with fail
                go_meet
                case rel => exact ⟨ab, ya, ca, Da, rfl, HE.out, HC2.out, HO.out, hca, hca2⟩
              · have gg : Below W3q.heap.size W3q (W3q.alloc (.cells #[.int .i64 0, .int .i64 0, .slice none 0 0] 30)) := by go_grown
                have hab : D0 ≤ W3q.heap.size := Nat.le_trans hDs gD.size
                have hN : N3 (W3q.alloc (.cells #[.int .i64 0, .int .i64 0, .slice none 0 0] 30)) W3q.heap.size := ⟨by simp [go_sem], by simp [go_sem], by simp [go_sem], by simp [go_sem], by simp [go_sem], by simp [go_sem]⟩
                have hne : ∀ g, (Value.ownBlock (v5)) = some g → g ≠ W3q.heap.size := fun g e => by have := (World.ownsRow.lt hG g e).2; omega
                have hG := hG.grown gg
                have gD := gD.trans (gg.mono (Nat.le_trans hDs gD.size))
                go_simp
                refine hK.out _ _ (HUp.out _ gD) (fun hHeld => ?_)
                clear hK K gg
                generalize W3q.alloc (.cells #[.int .i64 0, .int .i64 0, .slice none 0 0] 30) = W6q at hHeld hN gD hG ⊢
                generalize W3q.heap.size = ab at hN hab hne ⊢
                try simp only [Act.put]
                try simp only [List.setIfInBounds_toArray]
                try simp only [List.set]
                refine wpAnyH_ready (rs := [7]) (by kernel_rfl) (by simp) ?_
                refine AllReadyH.cons rfl (fun K hK => ?_) AllReadyH.nil
                have hG : Gb D0 W6q v5 al := by have h := hG; rw [List.nil_append, HAl.out] at h; exact h
                obtain ⟨pz, cz, hvz, hz1, hz2, hzb, _⟩ := hG.shape
                subst hvz
                have hzr := hzb.reads
                clear hG hzb hne
                go_simp
                go_wp2_with (go_at_call 19; refine (HRl.out _ _ _ hz1 hz2 hzr).mono ?_; rintro e W7q ⟨ya, ca, Da, rfl, gg, hO, hca, hca2⟩)
                have hNl := hN.lt
                have hN := hN.up gg
                have hpos : W7q.heap.size ≤ ab ∨ ab + 1 ≤ W6q.heap.size := .inr hNl
                have gD := gD.trans (gg.mono (Nat.le_trans hDs gD.size))
                have hle : W7q.heap.size ≤ W7q.heap.size := Nat.le_refl _
                refine hK.out _ _ (HUp.out _ gD) (fun hHeld => ?_)
                clear hK K gg
                try simp only [Act.put]
                try simp only [List.setIfInBounds_toArray]
                try simp only [List.set]
                have T : Turned ab (ab + 1) W7q (((W7q.setCell ⟨ab, 0, none⟩ (.int .i64 (rlQ al))).setCell ⟨ab, 1, none⟩ (.int .i64 (rlU al))).setCell ⟨ab, 2, none⟩ (.slice ya (rlN al) ca)) := (((Turned.refl _ _ W7q).setCell (p := ⟨ab, 0, none⟩) (Nat.le_refl _) (Nat.lt_succ_self _) _).setCell (p := ⟨ab, 1, none⟩) (Nat.le_refl _) (Nat.lt_succ_self _) _).setCell (p := ⟨ab, 2, none⟩) (Nat.le_refl _) (Nat.lt_succ_self _) _
                have gE : Below D0 Dd (((W7q.setCell ⟨ab, 0, none⟩ (.int .i64 (rlQ al))).setCell ⟨ab, 1, none⟩ (.int .i64 (rlU al))).setCell ⟨ab, 2, none⟩ (.slice ya (rlN al) ca)) := gD.trans (T.toBelow (Nat.le_trans hDs gD.size) hab)
                have HE : Hid (F (((W7q.setCell ⟨ab, 0, none⟩ (.int .i64 (rlQ al))).setCell ⟨ab, 1, none⟩ (.int .i64 (rlU al))).setCell ⟨ab, 2, none⟩ (.slice ya (rlN al) ca))) := HUp.out _ gE
                have HO : Hid (RecsRead (((W7q.setCell ⟨ab, 0, none⟩ (.int .i64 (rlQ al))).setCell ⟨ab, 1, none⟩ (.int .i64 (rlU al))).setCell ⟨ab, 2, none⟩ (.slice ya (rlN al) ca)) ya (rlN al) (lgR al) Da) := (hO.turned T hpos).recs
                obtain ⟨a0, a1, a2, f0, f1, f2⟩ := hN
                have HC2 : Hid ((((W7q.setCell ⟨ab, 0, none⟩ (.int .i64 (rlQ al))).setCell ⟨ab, 1, none⟩ (.int .i64 (rlU al))).setCell ⟨ab, 2, none⟩ (.slice ya (rlN al) ca)).cell? ⟨ab, 2, none⟩ = some (.slice ya (rlN al) ca)) := World.cell?_setCell_same _ _ _ (by rw [World.cell?_setCell_other _ _ _ _ (by simp), World.cell?_setCell_other _ _ _ _ (by simp)]; exact a2)
                refine wpAnyH_ready (rs := [9]) (by kernel_rfl) (by simp) ?_
                refine AllReadyH.cons rfl (fun K hK => ?_) AllReadyH.nil
                go_simp
                refine hK.out _ _ HE.out (fun hHeld => ?_)
                clear hK K
                try simp only [Act.put]
                try simp only [List.setIfInBounds_toArray]
                try simp only [List.set]
                refine wpAnyH_done (by kernel_rfl) ?_ _
                go_wp2_with fail
                go_meet
                case rel => exact ⟨ab, ya, ca, Da, rfl, HE.out, HC2.out, HO.out, hca, hca2⟩
            · have gg : Below W2q.heap.size W2q (W2q.alloc (.cells #[.int .i64 0, .int .i64 0, .slice none 0 0] 30)) := by go_grown
              have hab : D0 ≤ W2q.heap.size := Nat.le_trans hDs gD.size
              have hN : N3 (W2q.alloc (.cells #[.int .i64 0, .int .i64 0, .slice none 0 0] 30)) W2q.heap.size := ⟨by simp [go_sem], by simp [go_sem], by simp [go_sem], by simp [go_sem], by simp [go_sem], by simp [go_sem]⟩
              have hne : ∀ g, (Value.ownBlock (v4)) = some g → g ≠ W2q.heap.size := fun g e => by have := (World.ownsRow.lt hG g e).2; omega
              have hG := hG.grown gg
              have gD := gD.trans (gg.mono (Nat.le_trans hDs gD.size))
              go_simp
              refine hK.out _ _ (HUp.out _ gD) (fun hHeld => ?_)
              clear hK K gg
              generalize W2q.alloc (.cells #[.int .i64 0, .int .i64 0, .slice none 0 0] 30) = W8q at hHeld hN gD hG ⊢
              generalize W2q.heap.size = ab at hN hab hne ⊢
              try simp only [Act.put]
              try simp only [List.setIfInBounds_toArray]
              try simp only [List.set]
              refine wpAnyH_ready (rs := [6]) (by kernel_rfl) (by simp) ?_
              refine AllReadyH.cons rfl (fun K hK => ?_) AllReadyH.nil
              refine wp_append_bytes _ _ _ rfl D0 v4 ([] ++ xs) ys y ys.length d rfl rfl rfl hG (FY.out _ ( (HUp.out _ gD))) (by simp; omega) (Nat.le_trans hDs gD.size) ?_
              intro v5 W9q hG' hgr hat
              have gD' : Below D0 Dd W9q := Below.grown gD hgr (Nat.le_trans hDs gD.size) (fun q e => (World.ownsRow.lt hG q e).1)
              have hNl := hN.lt
              have hN := hN.blk (hgr.block ab hNl (fun e => hne ab e.symm rfl))
              have hne : ∀ g, v5.ownBlock = some g → g ≠ ab := fun g e => by
                rcases hat with h | h
                · exact hne g (h.symm.trans e)
                · rw [h] at e; injection e with e; omega
              have hG := hG'
              have gD := gD'
              clear hG' gD' hgr hat
              refine hK.out _ _ (HUp.out _ gD) (fun hHeld => ?_)
              clear hK K
              try simp only [Act.put]
              try simp only [List.setIfInBounds_toArray]
              try simp only [List.set]
              refine wpAnyH_ready (rs := [7]) (by kernel_rfl) (by simp) ?_
              refine AllReadyH.cons rfl (fun K hK => ?_) AllReadyH.nil
              have hG : Gb D0 W9q v5 al := by have h := hG; rw [List.nil_append, HAl.out] at h; exact h
              obtain ⟨pz, cz, hvz, hz1, hz2, hzb, _⟩ := hG.shape
              subst hvz
              have hzr := hzb.reads
              clear hG hzb hne
              go_simp
              go_wp2_with (go_at_call 19; refine (HRl.out _ _ _ hz1 hz2 hzr).mono ?_; rintro e W10q ⟨ya, ca, Da, rfl, gg, hO, hca, hca2⟩)
              have hNl := hN.lt
              have hN := hN.up gg
              have hpos : W10q.heap.size ≤ ab ∨ ab + 1 ≤ W9q.heap.size := .inr hNl
              have gD := gD.trans (gg.mono (Nat.le_trans hDs gD.size))
              have hle : W10q.heap.size ≤ W10q.heap.size := Nat.le_refl _
              refine hK.out _ _ (HUp.out _ gD) (fun hHeld => ?_)
              clear hK K gg
              try simp only [Act.put]
              try simp only [List.setIfInBounds_toArray]
              try simp only [List.set]
              have T : Turned ab (ab + 1) W10q (((W10q.setCell ⟨ab, 0, none⟩ (.int .i64 (rlQ al))).setCell ⟨ab, 1, none⟩ (.int .i64 (rlU al))).setCell ⟨ab, 2, none⟩ (.slice ya (rlN al) ca)) := (((Turned.refl _ _ W10q).setCell (p := ⟨ab, 0, none⟩) (Nat.le_refl _) (Nat.lt_succ_self _) _).setCell (p := ⟨ab, 1, none⟩) (Nat.le_refl _) (Nat.lt_succ_self _) _).setCell (p := ⟨ab, 2, none⟩) (Nat.le_refl _) (Nat.lt_succ_self _) _
              have gE : Below D0 Dd (((W10q.setCell ⟨ab, 0, none⟩ (.int .i64 (rlQ al))).setCell ⟨ab, 1, none⟩ (.int .i64 (rlU al))).setCell ⟨ab, 2, none⟩ (.slice ya (rlN al) ca)) := gD.trans (T.toBelow (Nat.le_trans hDs gD.size) hab)
              have HE : Hid (F (((W10q.setCell ⟨ab, 0, none⟩ (.int .i64 (rlQ al))).setCell ⟨ab, 1, none⟩ (.int .i64 (rlU al))).setCell ⟨ab, 2, none⟩ (.slice ya (rlN al) ca))) := HUp.out _ gE
              have HO : Hid (RecsRead (((W10q.setCell ⟨ab, 0, none⟩ (.int .i64 (rlQ al))).setCell ⟨ab, 1, none⟩ (.int .i64 (rlU al))).setCell ⟨ab, 2, none⟩ (.slice ya (rlN al) ca)) ya (rlN al) (lgR al) Da) := (hO.turned T hpos).recs
              obtain ⟨a0, a1, a2, f0, f1, f2⟩ := hN
              have HC2 : Hid ((((W10q.setCell ⟨ab, 0, none⟩ (.int .i64 (rlQ al))).setCell ⟨ab, 1, none⟩ (.int .i64 (rlU al))).setCell ⟨ab, 2, none⟩ (.slice ya (rlN al) ca)).cell? ⟨ab, 2, none⟩ = some (.slice ya (rlN al) ca)) := World.cell?_setCell_same _ _ _ (by rw [World.cell?_setCell_other _ _ _ _ (by simp), World.cell?_setCell_other _ _ _ _ (by simp)]; exact a2)
              refine wpAnyH_ready (rs := [9]) (by kernel_rfl) (by simp) ?_
              refine AllReadyH.cons rfl (fun K hK => ?_) AllReadyH.nil
              go_simp
              refine hK.out _ _ HE.out (fun hHeld => ?_)
              clear hK K
              try simp only [Act.put]
              try simp only [List.setIfInBounds_toArray]
              try simp only [List.set]
              refine wpAnyH_done (by kernel_rfl) ?_ _
              go_wp2_with fail
              go_meet
              case rel => exact ⟨ab, ya, ca, Da, rfl, HE.out, HC2.out, HO.out, hca, hca2⟩
          · have gg : Below W1q.heap.size W1q (W1q.alloc (.cells #[.int .i64 0, .int .i64 0, .slice none 0 0] 30)) := by go_grown
            have hab : D0 ≤ W1q.heap.size := Nat.le_trans hDs gD.size
            have hN : N3 (W1q.alloc (.cells #[.int .i64 0, .int .i64 0, .slice none 0 0] 30)) W1q.heap.size := ⟨by simp [go_sem], by simp [go_sem], by simp [go_sem], by simp [go_sem], by simp [go_sem], by simp [go_sem]⟩
            have hne : ∀ g, (Value.ownBlock (Value.slice (some ⟨bb, 0, none⟩) 0 0)) = some g → g ≠ W1q.heap.size := fun g e => by have := (World.ownsRow.lt hG g e).2; omega
            have hG := hG.grown gg
            have gD := gD.trans (gg.mono (Nat.le_trans hDs gD.size))
            go_simp
            refine hK.out _ _ (HUp.out _ gD) (fun hHeld => ?_)
            clear hK K gg
            generalize W1q.alloc (.cells #[.int .i64 0, .int .i64 0, .slice none 0 0] 30) = W11q at hHeld hN gD hG ⊢
            generalize W1q.heap.size = ab at hN hab hne ⊢
            try simp only [Act.put]
            try simp only [List.setIfInBounds_toArray]
            try simp only [List.set]
            refine wpAnyH_ready (rs := [3]) (by kernel_rfl) (by simp) ?_
            refine AllReadyH.cons rfl (fun K hK => ?_) AllReadyH.nil
            refine wp_append_bytes _ _ _ rfl D0 (.slice (some ⟨bb, 0, none⟩) 0 0) [] xs x xs.length cc rfl rfl rfl hG (FX.out _ ( (HUp.out _ gD))) (by simp; omega) (Nat.le_trans hDs gD.size) ?_
            intro v4 W12q hG' hgr hat
            have gD' : Below D0 Dd W12q := Below.grown gD hgr (Nat.le_trans hDs gD.size) (fun q e => (World.ownsRow.lt hG q e).1)
            have hNl := hN.lt
            have hN := hN.blk (hgr.block ab hNl (fun e => hne ab e.symm rfl))
            have hne : ∀ g, v4.ownBlock = some g → g ≠ ab := fun g e => by
              rcases hat with h | h
              · exact hne g (h.symm.trans e)
              · rw [h] at e; injection e with e; omega
            have hG := hG'
            have gD := gD'
            clear hG' gD' hgr hat
            refine hK.out _ _ (HUp.out _ gD) (fun hHeld => ?_)
            clear hK K
            try simp only [Act.put]
            try simp only [List.setIfInBounds_toArray]
            try simp only [List.set]
            refine wpAnyH_ready (rs := [6]) (by kernel_rfl) (by simp) ?_
            refine AllReadyH.cons rfl (fun K hK => ?_) AllReadyH.nil
            refine wp_append_bytes _ _ _ rfl D0 v4 ([] ++ xs) ys y ys.length d rfl rfl rfl hG (FY.out _ ( (HUp.out _ gD))) (by simp; omega) (Nat.le_trans hDs gD.size) ?_
            intro v5 W13q hG' hgr hat
            have gD' : Below D0 Dd W13q := Below.grown gD hgr (Nat.le_trans hDs gD.size) (fun q e => (World.ownsRow.lt hG q e).1)
            have hNl := hN.lt
            have hN := hN.blk (hgr.block ab hNl (fun e => hne ab e.symm rfl))
            have hne : ∀ g, v5.ownBlock = some g → g ≠ ab := fun g e => by
              rcases hat with h | h
              · exact hne g (h.symm.trans e)
              · rw [h] at e; injection e with e; omega
            have hG := hG'
            have gD := gD'
            clear hG' gD' hgr hat
            refine hK.out _ _ (HUp.out _ gD) (fun hHeld => ?_)
            clear hK K
            try simp only [Act.put]
            try simp only [List.setIfInBounds_toArray]
            try simp only [List.set]
            refine wpAnyH_ready (rs := [7]) (by kernel_rfl) (by simp) ?_
            refine AllReadyH.cons rfl (fun K hK => ?_) AllReadyH.nil
            have hG : Gb D0 W13q v5 al := by have h := hG; rw [List.nil_append, HAl.out] at h; exact h
            obtain ⟨pz, cz, hvz, hz1, hz2, hzb, _⟩ := hG.shape
            subst hvz
            have hzr := hzb.reads
            clear hG hzb hne
            go_simp
            go_wp2_with (go_at_call 19; refine (HRl.out _ _ _ hz1 hz2 hzr).mono ?_; rintro e W14q ⟨ya, ca, Da, rfl, gg, hO, hca, hca2⟩)
            have hNl := hN.lt
            have hN := hN.up gg
            have hpos : W14q.heap.size ≤ ab ∨ ab + 1 ≤ W13q.heap.size := .inr hNl
            have gD := gD.trans (gg.mono (Nat.le_trans hDs gD.size))
            have hle : W14q.heap.size ≤ W14q.heap.size := Nat.le_refl _
            refine hK.out _ _ (HUp.out _ gD) (fun hHeld => ?_)
            clear hK K gg
            try simp only [Act.put]
            try simp only [List.setIfInBounds_toArray]
            try simp only [List.set]
            have T : Turned ab (ab + 1) W14q (((W14q.setCell ⟨ab, 0, none⟩ (.int .i64 (rlQ al))).setCell ⟨ab, 1, none⟩ (.int .i64 (rlU al))).setCell ⟨ab, 2, none⟩ (.slice ya (rlN al) ca)) := (((Turned.refl _ _ W14q).setCell (p := ⟨ab, 0, none⟩) (Nat.le_refl _) (Nat.lt_succ_self _) _).setCell (p := ⟨ab, 1, none⟩) (Nat.le_refl _) (Nat.lt_succ_self _) _).setCell (p := ⟨ab, 2, none⟩) (Nat.le_refl _) (Nat.lt_succ_self _) _
            have gE : Below D0 Dd (((W14q.setCell ⟨ab, 0, none⟩ (.int .i64 (rlQ al))).setCell ⟨ab, 1, none⟩ (.int .i64 (rlU al))).setCell ⟨ab, 2, none⟩ (.slice ya (rlN al) ca)) := gD.trans (T.toBelow (Nat.le_trans hDs gD.size) hab)
            have HE : Hid (F (((W14q.setCell ⟨ab, 0, none⟩ (.int .i64 (rlQ al))).setCell ⟨ab, 1, none⟩ (.int .i64 (rlU al))).setCell ⟨ab, 2, none⟩ (.slice ya (rlN al) ca))) := HUp.out _ gE
            have HO : Hid (RecsRead (((W14q.setCell ⟨ab, 0, none⟩ (.int .i64 (rlQ al))).setCell ⟨ab, 1, none⟩ (.int .i64 (rlU al))).setCell ⟨ab, 2, none⟩ (.slice ya (rlN al) ca)) ya (rlN al) (lgR al) Da) := (hO.turned T hpos).recs
            obtain ⟨a0, a1, a2, f0, f1, f2⟩ := hN
            have HC2 : Hid ((((W14q.setCell ⟨ab, 0, none⟩ (.int .i64 (rlQ al))).setCell ⟨ab, 1, none⟩ (.int .i64 (rlU al))).setCell ⟨ab, 2, none⟩ (.slice ya (rlN al) ca)).cell? ⟨ab, 2, none⟩ = some (.slice ya (rlN al) ca)) := World.cell?_setCell_same _ _ _ (by rw [World.cell?_setCell_other _ _ _ _ (by simp), World.cell?_setCell_other _ _ _ _ (by simp)]; exact a2)
            refine wpAnyH_ready (rs := [9]) (by kernel_rfl) (by simp) ?_
            refine AllReadyH.cons rfl (fun K hK => ?_) AllReadyH.nil
            go_simp
            refine hK.out _ _ HE.out (fun hHeld => ?_)
            clear hK K
            try simp only [Act.put]
            try simp only [List.setIfInBounds_toArray]
            try simp only [List.set]
            refine wpAnyH_done (by kernel_rfl) ?_ _
            go_wp2_with fail
            go_meet
            case rel => exact ⟨ab, ya, ca, Da, rfl, HE.out, HC2.out, HO.out, hca, hca2⟩
        · have gg : Below Dd.heap.size Dd (Dd.alloc (.cells #[.int .i64 0, .int .i64 0, .slice none 0 0] 30)) := by go_grown
          have hab : D0 ≤ Dd.heap.size := Nat.le_trans hDs gD.size
          have hN : N3 (Dd.alloc (.cells #[.int .i64 0, .int .i64 0, .slice none 0 0] 30)) Dd.heap.size := ⟨by simp [go_sem], by simp [go_sem], by simp [go_sem], by simp [go_sem], by simp [go_sem], by simp [go_sem]⟩
          have gD := gD.trans (gg.mono (Nat.le_trans hDs gD.size))
          go_simp
          refine hK.out _ _ (HUp.out _ gD) (fun hHeld => ?_)
          clear hK K gg
          generalize Dd.alloc (.cells #[.int .i64 0, .int .i64 0, .slice none 0 0] 30) = W15q at hHeld hN gD ⊢
          generalize Dd.heap.size = ab at hN hab ⊢
          try simp only [Act.put]
          try simp only [List.setIfInBounds_toArray]
          try simp only [List.set]
          refine wpAnyH_ready (rs := [0]) (by kernel_rfl) (by simp) ?_
          refine AllReadyH.cons rfl (fun K hK => ?_) AllReadyH.nil
          have gg : Below W15q.heap.size W15q (W15q.alloc (.cells #[] 5)) := by go_grown
          have hG : Gb W15q.heap.size (W15q.alloc (.cells #[] 5)) (.slice (some ⟨W15q.heap.size, 0, none⟩) 0 0) [] := Gb.lit _ _ (Nat.le_refl _)
          have hNl := hN.lt
          have hN := hN.up gg
          have hne : ∀ g, (Value.slice (some ⟨W15q.heap.size, 0, none⟩) 0 0).ownBlock = some g → g ≠ ab := fun g e => by simp [Value.ownBlock] at e; omega
          have hG := hG.low (Nat.le_trans hDs gD.size)
          have gD := gD.trans (gg.mono (Nat.le_trans hDs gD.size))
          go_simp
          refine hK.out _ _ (HUp.out _ gD) (fun hHeld => ?_)
          clear hK K gg
          generalize (W15q.alloc (.cells #[] 5)) = W16q at hHeld gD hG hN ⊢
          generalize W15q.heap.size = bb at hG hne ⊢
          try simp only [Act.put]
          try simp only [List.setIfInBounds_toArray]
          try simp only [List.set]
          refine wpAnyH_ready (rs := [3]) (by kernel_rfl) (by simp) ?_
          refine AllReadyH.cons rfl (fun K hK => ?_) AllReadyH.nil
          refine wp_append_bytes _ _ _ rfl D0 (.slice (some ⟨bb, 0, none⟩) 0 0) [] xs x xs.length cc rfl rfl rfl hG (FX.out _ ( (HUp.out _ gD))) (by simp; omega) (Nat.le_trans hDs gD.size) ?_
          intro v4 W17q hG' hgr hat
          have gD' : Below D0 Dd W17q := Below.grown gD hgr (Nat.le_trans hDs gD.size) (fun q e => (World.ownsRow.lt hG q e).1)
          have hNl := hN.lt
          have hN := hN.blk (hgr.block ab hNl (fun e => hne ab e.symm rfl))
          have hne : ∀ g, v4.ownBlock = some g → g ≠ ab := fun g e => by
            rcases hat with h | h
            · exact hne g (h.symm.trans e)
            · rw [h] at e; injection e with e; omega
          have hG := hG'
          have gD := gD'
          clear hG' gD' hgr hat
          refine hK.out _ _ (HUp.out _ gD) (fun hHeld => ?_)
          clear hK K
          try simp only [Act.put]
          try simp only [List.setIfInBounds_toArray]
          try simp only [List.set]
          refine wpAnyH_ready (rs := [6]) (by kernel_rfl) (by simp) ?_
          refine AllReadyH.cons rfl (fun K hK => ?_) AllReadyH.nil
          refine wp_append_bytes _ _ _ rfl D0 v4 ([] ++ xs) ys y ys.length d rfl rfl rfl hG (FY.out _ ( (HUp.out _ gD))) (by simp; omega) (Nat.le_trans hDs gD.size) ?_
          intro v5 W18q hG' hgr hat
          have gD' : Below D0 Dd W18q := Below.grown gD hgr (Nat.le_trans hDs gD.size) (fun q e => (World.ownsRow.lt hG q e).1)
          have hNl := hN.lt
          have hN := hN.blk (hgr.block ab hNl (fun e => hne ab e.symm rfl))
          have hne : ∀ g, v5.ownBlock = some g → g ≠ ab := fun g e => by
            rcases hat with h | h
            · exact hne g (h.symm.trans e)
            · rw [h] at e; injection e with e; omega
          have hG := hG'
          have gD := gD'
          clear hG' gD' hgr hat
          refine hK.out _ _ (HUp.out _ gD) (fun hHeld => ?_)
          clear hK K
          try simp only [Act.put]
          try simp only [List.setIfInBounds_toArray]
          try simp only [List.set]
          refine wpAnyH_ready (rs := [7]) (by kernel_rfl) (by simp) ?_
          refine AllReadyH.cons rfl (fun K hK => ?_) AllReadyH.nil
          have hG : Gb D0 W18q v5 al := by have h := hG; rw [List.nil_append, HAl.out] at h; exact h
          obtain ⟨pz, cz, hvz, hz1, hz2, hzb, _⟩ := hG.shape
          subst hvz
          have hzr := hzb.reads
          clear hG hzb hne
          go_simp
          go_wp2_with (go_at_call 19; refine (HRl.out _ _ _ hz1 hz2 hzr).mono ?_; rintro e W19q ⟨ya, ca, Da, rfl, gg, hO, hca, hca2⟩)
          have hNl := hN.lt
          have hN := hN.up gg
          have hpos : W19q.heap.size ≤ ab ∨ ab + 1 ≤ W18q.heap.size := .inr hNl
          have gD := gD.trans (gg.mono (Nat.le_trans hDs gD.size))
          have hle : W19q.heap.size ≤ W19q.heap.size := Nat.le_refl _
          refine hK.out _ _ (HUp.out _ gD) (fun hHeld => ?_)
          clear hK K gg
          try simp only [Act.put]
          try simp only [List.setIfInBounds_toArray]
          try simp only [List.set]
          have T : Turned ab (ab + 1) W19q (((W19q.setCell ⟨ab, 0, none⟩ (.int .i64 (rlQ al))).setCell ⟨ab, 1, none⟩ (.int .i64 (rlU al))).setCell ⟨ab, 2, none⟩ (.slice ya (rlN al) ca)) := (((Turned.refl _ _ W19q).setCell (p := ⟨ab, 0, none⟩) (Nat.le_refl _) (Nat.lt_succ_self _) _).setCell (p := ⟨ab, 1, none⟩) (Nat.le_refl _) (Nat.lt_succ_self _) _).setCell (p := ⟨ab, 2, none⟩) (Nat.le_refl _) (Nat.lt_succ_self _) _
          have gE : Below D0 Dd (((W19q.setCell ⟨ab, 0, none⟩ (.int .i64 (rlQ al))).setCell ⟨ab, 1, none⟩ (.int .i64 (rlU al))).setCell ⟨ab, 2, none⟩ (.slice ya (rlN al) ca)) := gD.trans (T.toBelow (Nat.le_trans hDs gD.size) hab)
          have HE : Hid (F (((W19q.setCell ⟨ab, 0, none⟩ (.int .i64 (rlQ al))).setCell ⟨ab, 1, none⟩ (.int .i64 (rlU al))).setCell ⟨ab, 2, none⟩ (.slice ya (rlN al) ca))) := HUp.out _ gE
          have HO : Hid (RecsRead (((W19q.setCell ⟨ab, 0, none⟩ (.int .i64 (rlQ al))).setCell ⟨ab, 1, none⟩ (.int .i64 (rlU al))).setCell ⟨ab, 2, none⟩ (.slice ya (rlN al) ca)) ya (rlN al) (lgR al) Da) := (hO.turned T hpos).recs
          obtain ⟨a0, a1, a2, f0, f1, f2⟩ := hN
          have HC2 : Hid ((((W19q.setCell ⟨ab, 0, none⟩ (.int .i64 (rlQ al))).setCell ⟨ab, 1, none⟩ (.int .i64 (rlU al))).setCell ⟨ab, 2, none⟩ (.slice ya (rlN al) ca)).cell? ⟨ab, 2, none⟩ = some (.slice ya (rlN al) ca)) := World.cell?_setCell_same _ _ _ (by rw [World.cell?_setCell_other _ _ _ _ (by simp), World.cell?_setCell_other _ _ _ _ (by simp)]; exact a2)
          refine wpAnyH_ready (rs := [9]) (by kernel_rfl) (by simp) ?_
          refine AllReadyH.cons rfl (fun K hK => ?_) AllReadyH.nil
          go_simp
          refine hK.out _ _ HE.out (fun hHeld => ?_)
          clear hK K
          try simp only [Act.put]
          try simp only [List.setIfInBounds_toArray]
          try simp only [List.set]
          refine wpAnyH_done (by kernel_rfl) ?_ _
          go_wp2_with fail
          go_meet
          case rel => exact ⟨ab, ya, ca, Da, rfl, HE.out, HC2.out, HO.out, hca, hca2⟩
      case rest =>
      obtain ⟨b9, wa, wcp, Dw, rfl, hF, hB9, hW9, hwc, hwc2⟩ := hcut
      obtain ⟨G, hGd⟩ : ∃ G : World → Prop, G = fun V => (F V) ∧ (V.cell? ⟨b9, 2, none⟩ = some (.slice wa (rlN al) wcp)) ∧ (RecsRead V wa (rlN al) (lgR al) Dw) := ⟨_, rfl⟩
      have hG := (show ∀ V, (F V) → (V.cell? ⟨b9, 2, none⟩ = some (.slice wa (rlN al) wcp)) → (RecsRead V wa (rlN al) (lgR al) Dw) → G V from fun V z0 z1 z2 => by rw [hGd]; exact ⟨z0, z1, z2⟩) _ hF hB9 hW9
      have HGU : Hid (∀ V W, Below V.heap.size V W → G V → G W) := fun V W hb h => by
        rw [hGd] at h ⊢
        exact ⟨HFU.out _ _ hb h.1, cellUp hb h.2.1, h.2.2.below hb (Nat.le_refl _)⟩
      have GF : Hid (∀ V, G V → F V) := fun V h => by rw [hGd] at h; exact h.1
      have GB9 : Hid (∀ V, G V → V.cell? ⟨b9, 2, none⟩ = some (.slice wa (rlN al) wcp)) := fun V h => by rw [hGd] at h; exact h.2.1
      have GW : Hid (∀ V, G V → RecsRead V wa (rlN al) (lgR al) Dw) := fun V h => by rw [hGd] at h; exact h.2.2
      clear hGd
      clear hF hB9 hW9
      go_upto_region 14 with (fail)
      go_cut [10] from 13 (fun s6 wc => ∃ (b6 : Nat) (ya : Option Addr) (ca : Nat) (Da : Nat → Ad), s6 = .pointer (some ⟨b6, 0, none⟩) ∧ G wc ∧ wc.cell? ⟨b6, 2, none⟩ = some (.slice ya (rlN nw) ca) ∧ RecsRead wc ya (rlN nw) (lgR nw) Da ∧ rlN nw ≤ ca ∧ ca ≤ 9223372036854775807)
      case first =>
        refine wp_region_held_drew (S := G) (by kernel_rfl) (HGU.out _ _ (Below.refl _ wc).drew hG) (fun hHeld => ?_)
        generalize wc.drew = Dd at hHeld ⊢
        clear hG
        obtain ⟨D0, hD0⟩ : ∃ D0, D0 = Dd.heap.size := ⟨_, rfl⟩
        have HUp : Hid (∀ V, Below D0 Dd V → G V) := fun V g => HGU.out _ _ (by rw [← hD0]; exact g) hHeld
        have gD : Below D0 Dd Dd := Below.refl _ _
        have hDs : D0 ≤ Dd.heap.size := Nat.le_of_eq hD0
        clear hD0
        clear FL FRr FC1 FE0 FE1 FE2 FRc FRn FA0 FX FY FLg FG HFU HSr HSm HBb HBd HVb HUb HAb HSy HRl H5 H6 H3 H4 HAl HR hOk hf27 hf40 hf30 GB9 GW
        refine wpAnyH_take (i := 1) (v := ?v17) rfl (by kernel_rfl) (by kernel_rfl) (by kernel_rfl) (fun _ _ _ h => h) (Or.inl ⟨by kernel_rfl, ?h17⟩) hHeld ?_
        case h17 => intro u hSw; (try dsimp only at hSw); go_simp; try with_reducible rfl
        try simp only [List.getElem_toArray]
        try simp only [List.getElem_cons_succ]
        try simp only [List.getElem_cons_zero]
        try simp only [Act.put]
        try simp only [List.setIfInBounds_toArray]
        try simp only [List.set]
        refine wpAnyH_take (i := 2) (v := ?v18) rfl (by kernel_rfl) (by kernel_rfl) (by kernel_rfl) (fun _ _ _ h => h) (Or.inl ⟨by kernel_rfl, ?h18⟩) hHeld ?_
        case h18 => intro u hSw; (try dsimp only at hSw); go_simp; try with_reducible rfl
        try simp only [List.getElem_toArray]
        try simp only [List.getElem_cons_succ]
        try simp only [List.getElem_cons_zero]
        try simp only [Act.put]
        try simp only [List.setIfInBounds_toArray]
        try simp only [List.set]
        refine wpAnyH_take (i := 3) (v := ?v19) rfl (by kernel_rfl) (by kernel_rfl) (by kernel_rfl) (fun _ _ _ h => h) (Or.inl ⟨by kernel_rfl, ?h19⟩) hHeld ?_
        case h19 => intro u hSw; have q0 := FA1.out _ (GF.out _ hSw); clear hSw; go_simp; try with_reducible rfl
        try simp only [List.getElem_toArray]
        try simp only [List.getElem_cons_succ]
        try simp only [List.getElem_cons_zero]
        try simp only [Act.put]
        try simp only [List.setIfInBounds_toArray]
        try simp only [List.set]
        refine wpAnyH_take (i := 5) (v := ?v20) rfl (by kernel_rfl) (by kernel_rfl) (by kernel_rfl) (fun _ _ _ h => h) (Or.inl ⟨by kernel_rfl, ?h20⟩) hHeld ?_
        case h20 => intro u hSw; (try dsimp only at hSw); go_simp; try with_reducible rfl
        try simp only [List.getElem_toArray]
        try simp only [List.getElem_cons_succ]
        try simp only [List.getElem_cons_zero]
        try simp only [Act.put]
        try simp only [List.setIfInBounds_toArray]
        try simp only [List.set]
        refine wpAnyH_take (i := 6) (v := ?v21) rfl (by kernel_rfl) (by kernel_rfl) (by kernel_rfl) (fun _ _ _ h => h) (Or.inl ⟨by kernel_rfl, ?h21⟩) hHeld ?_
        case h21 => intro u hSw; (try dsimp only at hSw); go_simp; try with_reducible rfl
        try simp only [List.getElem_toArray]
        try simp only [List.getElem_cons_succ]
        try simp only [List.getElem_cons_zero]
        try simp only [Act.put]
        try simp only [List.setIfInBounds_toArray]
        try simp only [List.set]
        refine wpAnyH_take (i := 7) (v := ?v22) rfl (by kernel_rfl) (by kernel_rfl) (by kernel_rfl) (fun _ _ _ h => h) (Or.inl ⟨by kernel_rfl, ?h22⟩) hHeld ?_
        case h22 => intro u hSw; have q0 := FA2.out _ (GF.out _ hSw); clear hSw; go_simp; try with_reducible rfl
        try simp only [List.getElem_toArray]
        try simp only [List.getElem_cons_succ]
        try simp only [List.getElem_cons_zero]
        try simp only [Act.put]
        try simp only [List.setIfInBounds_toArray]
        try simp only [List.set]
        refine wpAnyH_ready (rs := [0, 10]) (by kernel_rfl) (by simp) ?_
        refine AllReadyH.cons rfl (fun K hK => ?_) (AllReadyH.cons rfl (fun K hK => ?_) AllReadyH.nil)
        · have gg : Below Dd.heap.size Dd (Dd.alloc (.cells #[] 5)) := by go_grown
          have hG : Gb Dd.heap.size (Dd.alloc (.cells #[] 5)) (.slice (some ⟨Dd.heap.size, 0, none⟩) 0 0) [] := Gb.lit _ _ (Nat.le_refl _)
          have hG := hG.low (Nat.le_trans hDs gD.size)
          have gD := gD.trans (gg.mono (Nat.le_trans hDs gD.size))
          go_simp
          refine hK.out _ _ (HUp.out _ gD) (fun hHeld => ?_)
          clear hK K gg
          generalize (Dd.alloc (.cells #[] 5)) = W20q at hHeld gD hG ⊢
          generalize Dd.heap.size = bb at hG ⊢
          try simp only [Act.put]
          try simp only [List.setIfInBounds_toArray]
          try simp only [List.set]
          refine wpAnyH_ready (rs := [4, 10]) (by kernel_rfl) (by simp) ?_
          refine AllReadyH.cons rfl (fun K hK => ?_) (AllReadyH.cons rfl (fun K hK => ?_) AllReadyH.nil)
          · refine wp_append_bytes _ _ _ rfl D0 (.slice (some ⟨bb, 0, none⟩) 0 0) [] us p5 us.length c5 rfl rfl rfl hG (FU.out _ (GF.out _ (HUp.out _ gD))) (by simp; omega) (Nat.le_trans hDs gD.size) ?_
            intro v4 W21q hG' hgr hat
            have gD' : Below D0 Dd W21q := Below.grown gD hgr (Nat.le_trans hDs gD.size) (fun q e => (World.ownsRow.lt hG q e).1)
            have hG := hG'
            have gD := gD'
            clear hG' gD' hgr hat
            refine hK.out _ _ (HUp.out _ gD) (fun hHeld => ?_)
            clear hK K
            try simp only [Act.put]
            try simp only [List.setIfInBounds_toArray]
            try simp only [List.set]
            refine wpAnyH_ready (rs := [8, 10]) (by kernel_rfl) (by simp) ?_
            refine AllReadyH.cons rfl (fun K hK => ?_) (AllReadyH.cons rfl (fun K hK => ?_) AllReadyH.nil)
            · refine wp_append_bytes _ _ _ rfl D0 v4 ([] ++ us) vs r5 vs.length d5 rfl rfl rfl hG (FV5.out _ (GF.out _ (HUp.out _ gD))) (by simp; omega) (Nat.le_trans hDs gD.size) ?_
              intro v5 W22q hG' hgr hat
              have gD' : Below D0 Dd W22q := Below.grown gD hgr (Nat.le_trans hDs gD.size) (fun q e => (World.ownsRow.lt hG q e).1)
              have hG := hG'
              have gD := gD'
              clear hG' gD' hgr hat
              refine hK.out _ _ (HUp.out _ gD) (fun hHeld => ?_)
              clear hK K
              try simp only [Act.put]
              try simp only [List.setIfInBounds_toArray]
              try simp only [List.set]
              refine wpAnyH_ready (rs := [9, 10]) (by kernel_rfl) (by simp) ?_
              refine AllReadyH.cons rfl (fun K hK => ?_) (AllReadyH.cons rfl (fun K hK => ?_) AllReadyH.nil)
              · have hG : Gb D0 W22q v5 nw := by have h := hG; rw [List.nil_append, HNw.out] at h; exact h
                obtain ⟨pz, cz, hvz, hz1, hz2, hzb, _⟩ := hG.shape
                subst hvz
                have hzr := hzb.reads
                clear hG hzb
                go_simp
                go_wp2_with (go_at_call 19; refine (HRn.out _ _ _ hz1 hz2 hzr).mono ?_; rintro e W23q ⟨ya, ca, Da, rfl, gg, hO, hca, hca2⟩)
                have gD := gD.trans (gg.mono (Nat.le_trans hDs gD.size))
                have hle : W23q.heap.size ≤ W23q.heap.size := Nat.le_refl _
                refine hK.out _ _ (HUp.out _ gD) (fun hHeld => ?_)
                clear hK K gg
                obtain ⟨lo, hi, hO, hle⟩ : ∃ lo hi, OwnRS lo hi W23q ya (rlN nw) (lgR nw) Da ∧ hi ≤ W23q.heap.size := ⟨_, _, hO, hle⟩
                try simp only [Act.put]
                try simp only [List.setIfInBounds_toArray]
                try simp only [List.set]
                refine wpAnyH_ready (rs := [10]) (by kernel_rfl) (by simp) ?_
                refine AllReadyH.cons rfl (fun K hK => ?_) AllReadyH.nil
                have gg : Below W23q.heap.size W23q (W23q.alloc (.cells #[.int .i64 0, .int .i64 0, .slice none 0 0] 30)) := by go_grown
                have hab : D0 ≤ W23q.heap.size := Nat.le_trans hDs gD.size
                have hN : N3 (W23q.alloc (.cells #[.int .i64 0, .int .i64 0, .slice none 0 0] 30)) W23q.heap.size := ⟨by simp [go_sem], by simp [go_sem], by simp [go_sem], by simp [go_sem], by simp [go_sem], by simp [go_sem]⟩
                have hpos : hi ≤ W23q.heap.size ∨ W23q.heap.size + 1 ≤ lo := .inl hle
                have hO := hO.below gg
                have gD := gD.trans (gg.mono (Nat.le_trans hDs gD.size))
                go_simp
                refine hK.out _ _ (HUp.out _ gD) (fun hHeld => ?_)
                clear hK K gg
                generalize W23q.alloc (.cells #[.int .i64 0, .int .i64 0, .slice none 0 0] 30) = W24q at hHeld hN gD hO ⊢
                generalize W23q.heap.size = ab at hN hab hpos ⊢
                try simp only [Act.put]
                try simp only [List.setIfInBounds_toArray]
                try simp only [List.set]
                have T : Turned ab (ab + 1) W24q (((W24q.setCell ⟨ab, 0, none⟩ (.int .i64 (rlQ nw))).setCell ⟨ab, 1, none⟩ (.int .i64 (rlU nw))).setCell ⟨ab, 2, none⟩ (.slice ya (rlN nw) ca)) := (((Turned.refl _ _ W24q).setCell (p := ⟨ab, 0, none⟩) (Nat.le_refl _) (Nat.lt_succ_self _) _).setCell (p := ⟨ab, 1, none⟩) (Nat.le_refl _) (Nat.lt_succ_self _) _).setCell (p := ⟨ab, 2, none⟩) (Nat.le_refl _) (Nat.lt_succ_self _) _
                have gE : Below D0 Dd (((W24q.setCell ⟨ab, 0, none⟩ (.int .i64 (rlQ nw))).setCell ⟨ab, 1, none⟩ (.int .i64 (rlU nw))).setCell ⟨ab, 2, none⟩ (.slice ya (rlN nw) ca)) := gD.trans (T.toBelow (Nat.le_trans hDs gD.size) hab)
                have HE : Hid (G (((W24q.setCell ⟨ab, 0, none⟩ (.int .i64 (rlQ nw))).setCell ⟨ab, 1, none⟩ (.int .i64 (rlU nw))).setCell ⟨ab, 2, none⟩ (.slice ya (rlN nw) ca))) := HUp.out _ gE
                have HO : Hid (RecsRead (((W24q.setCell ⟨ab, 0, none⟩ (.int .i64 (rlQ nw))).setCell ⟨ab, 1, none⟩ (.int .i64 (rlU nw))).setCell ⟨ab, 2, none⟩ (.slice ya (rlN nw) ca)) ya (rlN nw) (lgR nw) Da) := (hO.turned T hpos).recs
                obtain ⟨a0, a1, a2, f0, f1, f2⟩ := hN
                have HC2 : Hid ((((W24q.setCell ⟨ab, 0, none⟩ (.int .i64 (rlQ nw))).setCell ⟨ab, 1, none⟩ (.int .i64 (rlU nw))).setCell ⟨ab, 2, none⟩ (.slice ya (rlN nw) ca)).cell? ⟨ab, 2, none⟩ = some (.slice ya (rlN nw) ca)) := World.cell?_setCell_same _ _ _ (by rw [World.cell?_setCell_other _ _ _ _ (by simp), World.cell?_setCell_other _ _ _ _ (by simp)]; exact a2)
                refine wpAnyH_ready (rs := [11]) (by kernel_rfl) (by simp) ?_
                refine AllReadyH.cons rfl (fun K hK => ?_) AllReadyH.nil
                go_simp
                refine hK.out _ _ HE.out (fun hHeld => ?_)
                clear hK K
                try simp only [Act.put]
                try simp only [List.setIfInBounds_toArray]
                try simp only [List.set]
                refine wpAnyH_done (by kernel_rfl) ?_ _
                go_wp2_with fail
                go_meet
                case rel => exact ⟨ab, ya, ca, Da, rfl, HE.out, HC2.out, HO.out, hca, hca2⟩
              · have gg : Below W22q.heap.size W22q (W22q.alloc (.cells #[.int .i64 0, .int .i64 0, .slice none 0 0] 30)) := by go_grown
                have hab : D0 ≤ W22q.heap.size := Nat.le_trans hDs gD.size
                have hN : N3 (W22q.alloc (.cells #[.int .i64 0, .int .i64 0, .slice none 0 0] 30)) W22q.heap.size := ⟨by simp [go_sem], by simp [go_sem], by simp [go_sem], by simp [go_sem], by simp [go_sem], by simp [go_sem]⟩
                have hne : ∀ g, (Value.ownBlock (v5)) = some g → g ≠ W22q.heap.size := fun g e => by have := (World.ownsRow.lt hG g e).2; omega
                have hG := hG.grown gg
                have gD := gD.trans (gg.mono (Nat.le_trans hDs gD.size))
                go_simp
                refine hK.out _ _ (HUp.out _ gD) (fun hHeld => ?_)
                clear hK K gg
                generalize W22q.alloc (.cells #[.int .i64 0, .int .i64 0, .slice none 0 0] 30) = W25q at hHeld hN gD hG ⊢
                generalize W22q.heap.size = ab at hN hab hne ⊢
                try simp only [Act.put]
                try simp only [List.setIfInBounds_toArray]
                try simp only [List.set]
                refine wpAnyH_ready (rs := [9]) (by kernel_rfl) (by simp) ?_
                refine AllReadyH.cons rfl (fun K hK => ?_) AllReadyH.nil
                have hG : Gb D0 W25q v5 nw := by have h := hG; rw [List.nil_append, HNw.out] at h; exact h
                obtain ⟨pz, cz, hvz, hz1, hz2, hzb, _⟩ := hG.shape
                subst hvz
                have hzr := hzb.reads
                clear hG hzb hne
                go_simp
                go_wp2_with (go_at_call 19; refine (HRn.out _ _ _ hz1 hz2 hzr).mono ?_; rintro e W26q ⟨ya, ca, Da, rfl, gg, hO, hca, hca2⟩)
                have hNl := hN.lt
                have hN := hN.up gg
                have hpos : W26q.heap.size ≤ ab ∨ ab + 1 ≤ W25q.heap.size := .inr hNl
                have gD := gD.trans (gg.mono (Nat.le_trans hDs gD.size))
                have hle : W26q.heap.size ≤ W26q.heap.size := Nat.le_refl _
                refine hK.out _ _ (HUp.out _ gD) (fun hHeld => ?_)
                clear hK K gg
                try simp only [Act.put]
                try simp only [List.setIfInBounds_toArray]
                try simp only [List.set]
                have T : Turned ab (ab + 1) W26q (((W26q.setCell ⟨ab, 0, none⟩ (.int .i64 (rlQ nw))).setCell ⟨ab, 1, none⟩ (.int .i64 (rlU nw))).setCell ⟨ab, 2, none⟩ (.slice ya (rlN nw) ca)) := (((Turned.refl _ _ W26q).setCell (p := ⟨ab, 0, none⟩) (Nat.le_refl _) (Nat.lt_succ_self _) _).setCell (p := ⟨ab, 1, none⟩) (Nat.le_refl _) (Nat.lt_succ_self _) _).setCell (p := ⟨ab, 2, none⟩) (Nat.le_refl _) (Nat.lt_succ_self _) _
                have gE : Below D0 Dd (((W26q.setCell ⟨ab, 0, none⟩ (.int .i64 (rlQ nw))).setCell ⟨ab, 1, none⟩ (.int .i64 (rlU nw))).setCell ⟨ab, 2, none⟩ (.slice ya (rlN nw) ca)) := gD.trans (T.toBelow (Nat.le_trans hDs gD.size) hab)
                have HE : Hid (G (((W26q.setCell ⟨ab, 0, none⟩ (.int .i64 (rlQ nw))).setCell ⟨ab, 1, none⟩ (.int .i64 (rlU nw))).setCell ⟨ab, 2, none⟩ (.slice ya (rlN nw) ca))) := HUp.out _ gE
                have HO : Hid (RecsRead (((W26q.setCell ⟨ab, 0, none⟩ (.int .i64 (rlQ nw))).setCell ⟨ab, 1, none⟩ (.int .i64 (rlU nw))).setCell ⟨ab, 2, none⟩ (.slice ya (rlN nw) ca)) ya (rlN nw) (lgR nw) Da) := (hO.turned T hpos).recs
                obtain ⟨a0, a1, a2, f0, f1, f2⟩ := hN
                have HC2 : Hid ((((W26q.setCell ⟨ab, 0, none⟩ (.int .i64 (rlQ nw))).setCell ⟨ab, 1, none⟩ (.int .i64 (rlU nw))).setCell ⟨ab, 2, none⟩ (.slice ya (rlN nw) ca)).cell? ⟨ab, 2, none⟩ = some (.slice ya (rlN nw) ca)) := World.cell?_setCell_same _ _ _ (by rw [World.cell?_setCell_other _ _ _ _ (by simp), World.cell?_setCell_other _ _ _ _ (by simp)]; exact a2)
                refine wpAnyH_ready (rs := [11]) (by kernel_rfl) (by simp) ?_
                refine AllReadyH.cons rfl (fun K hK => ?_) AllReadyH.nil
                go_simp
                refine hK.out _ _ HE.out (fun hHeld => ?_)
                clear hK K
                try simp only [Act.put]
                try simp only [List.setIfInBounds_toArray]
                try simp only [List.set]
                refine wpAnyH_done (by kernel_rfl) ?_ _
                go_wp2_with fail
                go_meet
                case rel => exact ⟨ab, ya, ca, Da, rfl, HE.out, HC2.out, HO.out, hca, hca2⟩
            · have gg : Below W21q.heap.size W21q (W21q.alloc (.cells #[.int .i64 0, .int .i64 0, .slice none 0 0] 30)) := by go_grown
              have hab : D0 ≤ W21q.heap.size := Nat.le_trans hDs gD.size
              have hN : N3 (W21q.alloc (.cells #[.int .i64 0, .int .i64 0, .slice none 0 0] 30)) W21q.heap.size := ⟨by simp [go_sem], by simp [go_sem], by simp [go_sem], by simp [go_sem], by simp [go_sem], by simp [go_sem]⟩
              have hne : ∀ g, (Value.ownBlock (v4)) = some g → g ≠ W21q.heap.size := fun g e => by have := (World.ownsRow.lt hG g e).2; omega
              have hG := hG.grown gg
              have gD := gD.trans (gg.mono (Nat.le_trans hDs gD.size))
              go_simp
              refine hK.out _ _ (HUp.out _ gD) (fun hHeld => ?_)
              clear hK K gg
              generalize W21q.alloc (.cells #[.int .i64 0, .int .i64 0, .slice none 0 0] 30) = W27q at hHeld hN gD hG ⊢
              generalize W21q.heap.size = ab at hN hab hne ⊢
              try simp only [Act.put]
              try simp only [List.setIfInBounds_toArray]
              try simp only [List.set]
              refine wpAnyH_ready (rs := [8]) (by kernel_rfl) (by simp) ?_
              refine AllReadyH.cons rfl (fun K hK => ?_) AllReadyH.nil
              refine wp_append_bytes _ _ _ rfl D0 v4 ([] ++ us) vs r5 vs.length d5 rfl rfl rfl hG (FV5.out _ (GF.out _ (HUp.out _ gD))) (by simp; omega) (Nat.le_trans hDs gD.size) ?_
              intro v5 W28q hG' hgr hat
              have gD' : Below D0 Dd W28q := Below.grown gD hgr (Nat.le_trans hDs gD.size) (fun q e => (World.ownsRow.lt hG q e).1)
              have hNl := hN.lt
              have hN := hN.blk (hgr.block ab hNl (fun e => hne ab e.symm rfl))
              have hne : ∀ g, v5.ownBlock = some g → g ≠ ab := fun g e => by
                rcases hat with h | h
                · exact hne g (h.symm.trans e)
                · rw [h] at e; injection e with e; omega
              have hG := hG'
              have gD := gD'
              clear hG' gD' hgr hat
              refine hK.out _ _ (HUp.out _ gD) (fun hHeld => ?_)
              clear hK K
              try simp only [Act.put]
              try simp only [List.setIfInBounds_toArray]
              try simp only [List.set]
              refine wpAnyH_ready (rs := [9]) (by kernel_rfl) (by simp) ?_
              refine AllReadyH.cons rfl (fun K hK => ?_) AllReadyH.nil
              have hG : Gb D0 W28q v5 nw := by have h := hG; rw [List.nil_append, HNw.out] at h; exact h
              obtain ⟨pz, cz, hvz, hz1, hz2, hzb, _⟩ := hG.shape
              subst hvz
              have hzr := hzb.reads
              clear hG hzb hne
              go_simp
              go_wp2_with (go_at_call 19; refine (HRn.out _ _ _ hz1 hz2 hzr).mono ?_; rintro e W29q ⟨ya, ca, Da, rfl, gg, hO, hca, hca2⟩)
              have hNl := hN.lt
              have hN := hN.up gg
              have hpos : W29q.heap.size ≤ ab ∨ ab + 1 ≤ W28q.heap.size := .inr hNl
              have gD := gD.trans (gg.mono (Nat.le_trans hDs gD.size))
              have hle : W29q.heap.size ≤ W29q.heap.size := Nat.le_refl _
              refine hK.out _ _ (HUp.out _ gD) (fun hHeld => ?_)
              clear hK K gg
              try simp only [Act.put]
              try simp only [List.setIfInBounds_toArray]
              try simp only [List.set]
              have T : Turned ab (ab + 1) W29q (((W29q.setCell ⟨ab, 0, none⟩ (.int .i64 (rlQ nw))).setCell ⟨ab, 1, none⟩ (.int .i64 (rlU nw))).setCell ⟨ab, 2, none⟩ (.slice ya (rlN nw) ca)) := (((Turned.refl _ _ W29q).setCell (p := ⟨ab, 0, none⟩) (Nat.le_refl _) (Nat.lt_succ_self _) _).setCell (p := ⟨ab, 1, none⟩) (Nat.le_refl _) (Nat.lt_succ_self _) _).setCell (p := ⟨ab, 2, none⟩) (Nat.le_refl _) (Nat.lt_succ_self _) _
              have gE : Below D0 Dd (((W29q.setCell ⟨ab, 0, none⟩ (.int .i64 (rlQ nw))).setCell ⟨ab, 1, none⟩ (.int .i64 (rlU nw))).setCell ⟨ab, 2, none⟩ (.slice ya (rlN nw) ca)) := gD.trans (T.toBelow (Nat.le_trans hDs gD.size) hab)
              have HE : Hid (G (((W29q.setCell ⟨ab, 0, none⟩ (.int .i64 (rlQ nw))).setCell ⟨ab, 1, none⟩ (.int .i64 (rlU nw))).setCell ⟨ab, 2, none⟩ (.slice ya (rlN nw) ca))) := HUp.out _ gE
              have HO : Hid (RecsRead (((W29q.setCell ⟨ab, 0, none⟩ (.int .i64 (rlQ nw))).setCell ⟨ab, 1, none⟩ (.int .i64 (rlU nw))).setCell ⟨ab, 2, none⟩ (.slice ya (rlN nw) ca)) ya (rlN nw) (lgR nw) Da) := (hO.turned T hpos).recs
              obtain ⟨a0, a1, a2, f0, f1, f2⟩ := hN
              have HC2 : Hid ((((W29q.setCell ⟨ab, 0, none⟩ (.int .i64 (rlQ nw))).setCell ⟨ab, 1, none⟩ (.int .i64 (rlU nw))).setCell ⟨ab, 2, none⟩ (.slice ya (rlN nw) ca)).cell? ⟨ab, 2, none⟩ = some (.slice ya (rlN nw) ca)) := World.cell?_setCell_same _ _ _ (by rw [World.cell?_setCell_other _ _ _ _ (by simp), World.cell?_setCell_other _ _ _ _ (by simp)]; exact a2)
              refine wpAnyH_ready (rs := [11]) (by kernel_rfl) (by simp) ?_
              refine AllReadyH.cons rfl (fun K hK => ?_) AllReadyH.nil
              go_simp
              refine hK.out _ _ HE.out (fun hHeld => ?_)
              clear hK K
              try simp only [Act.put]
              try simp only [List.setIfInBounds_toArray]
              try simp only [List.set]
              refine wpAnyH_done (by kernel_rfl) ?_ _
              go_wp2_with fail
              go_meet
              case rel => exact ⟨ab, ya, ca, Da, rfl, HE.out, HC2.out, HO.out, hca, hca2⟩
          · have gg : Below W20q.heap.size W20q (W20q.alloc (.cells #[.int .i64 0, .int .i64 0, .slice none 0 0] 30)) := by go_grown
            have hab : D0 ≤ W20q.heap.size := Nat.le_trans hDs gD.size
            have hN : N3 (W20q.alloc (.cells #[.int .i64 0, .int .i64 0, .slice none 0 0] 30)) W20q.heap.size := ⟨by simp [go_sem], by simp [go_sem], by simp [go_sem], by simp [go_sem], by simp [go_sem], by simp [go_sem]⟩
            have hne : ∀ g, (Value.ownBlock (Value.slice (some ⟨bb, 0, none⟩) 0 0)) = some g → g ≠ W20q.heap.size := fun g e => by have := (World.ownsRow.lt hG g e).2; omega
            have hG := hG.grown gg
            have gD := gD.trans (gg.mono (Nat.le_trans hDs gD.size))
            go_simp
            refine hK.out _ _ (HUp.out _ gD) (fun hHeld => ?_)
            clear hK K gg
            generalize W20q.alloc (.cells #[.int .i64 0, .int .i64 0, .slice none 0 0] 30) = W30q at hHeld hN gD hG ⊢
            generalize W20q.heap.size = ab at hN hab hne ⊢
            try simp only [Act.put]
            try simp only [List.setIfInBounds_toArray]
            try simp only [List.set]
            refine wpAnyH_ready (rs := [4]) (by kernel_rfl) (by simp) ?_
            refine AllReadyH.cons rfl (fun K hK => ?_) AllReadyH.nil
            refine wp_append_bytes _ _ _ rfl D0 (.slice (some ⟨bb, 0, none⟩) 0 0) [] us p5 us.length c5 rfl rfl rfl hG (FU.out _ (GF.out _ (HUp.out _ gD))) (by simp; omega) (Nat.le_trans hDs gD.size) ?_
            intro v4 W31q hG' hgr hat
            have gD' : Below D0 Dd W31q := Below.grown gD hgr (Nat.le_trans hDs gD.size) (fun q e => (World.ownsRow.lt hG q e).1)
            have hNl := hN.lt
            have hN := hN.blk (hgr.block ab hNl (fun e => hne ab e.symm rfl))
            have hne : ∀ g, v4.ownBlock = some g → g ≠ ab := fun g e => by
              rcases hat with h | h
              · exact hne g (h.symm.trans e)
              · rw [h] at e; injection e with e; omega
            have hG := hG'
            have gD := gD'
            clear hG' gD' hgr hat
            refine hK.out _ _ (HUp.out _ gD) (fun hHeld => ?_)
            clear hK K
            try simp only [Act.put]
            try simp only [List.setIfInBounds_toArray]
            try simp only [List.set]
            refine wpAnyH_ready (rs := [8]) (by kernel_rfl) (by simp) ?_
            refine AllReadyH.cons rfl (fun K hK => ?_) AllReadyH.nil
            refine wp_append_bytes _ _ _ rfl D0 v4 ([] ++ us) vs r5 vs.length d5 rfl rfl rfl hG (FV5.out _ (GF.out _ (HUp.out _ gD))) (by simp; omega) (Nat.le_trans hDs gD.size) ?_
            intro v5 W32q hG' hgr hat
            have gD' : Below D0 Dd W32q := Below.grown gD hgr (Nat.le_trans hDs gD.size) (fun q e => (World.ownsRow.lt hG q e).1)
            have hNl := hN.lt
            have hN := hN.blk (hgr.block ab hNl (fun e => hne ab e.symm rfl))
            have hne : ∀ g, v5.ownBlock = some g → g ≠ ab := fun g e => by
              rcases hat with h | h
              · exact hne g (h.symm.trans e)
              · rw [h] at e; injection e with e; omega
            have hG := hG'
            have gD := gD'
            clear hG' gD' hgr hat
            refine hK.out _ _ (HUp.out _ gD) (fun hHeld => ?_)
            clear hK K
            try simp only [Act.put]
            try simp only [List.setIfInBounds_toArray]
            try simp only [List.set]
            refine wpAnyH_ready (rs := [9]) (by kernel_rfl) (by simp) ?_
            refine AllReadyH.cons rfl (fun K hK => ?_) AllReadyH.nil
            have hG : Gb D0 W32q v5 nw := by have h := hG; rw [List.nil_append, HNw.out] at h; exact h
            obtain ⟨pz, cz, hvz, hz1, hz2, hzb, _⟩ := hG.shape
            subst hvz
            have hzr := hzb.reads
            clear hG hzb hne
            go_simp
            go_wp2_with (go_at_call 19; refine (HRn.out _ _ _ hz1 hz2 hzr).mono ?_; rintro e W33q ⟨ya, ca, Da, rfl, gg, hO, hca, hca2⟩)
            have hNl := hN.lt
            have hN := hN.up gg
            have hpos : W33q.heap.size ≤ ab ∨ ab + 1 ≤ W32q.heap.size := .inr hNl
            have gD := gD.trans (gg.mono (Nat.le_trans hDs gD.size))
            have hle : W33q.heap.size ≤ W33q.heap.size := Nat.le_refl _
            refine hK.out _ _ (HUp.out _ gD) (fun hHeld => ?_)
            clear hK K gg
            try simp only [Act.put]
            try simp only [List.setIfInBounds_toArray]
            try simp only [List.set]
            have T : Turned ab (ab + 1) W33q (((W33q.setCell ⟨ab, 0, none⟩ (.int .i64 (rlQ nw))).setCell ⟨ab, 1, none⟩ (.int .i64 (rlU nw))).setCell ⟨ab, 2, none⟩ (.slice ya (rlN nw) ca)) := (((Turned.refl _ _ W33q).setCell (p := ⟨ab, 0, none⟩) (Nat.le_refl _) (Nat.lt_succ_self _) _).setCell (p := ⟨ab, 1, none⟩) (Nat.le_refl _) (Nat.lt_succ_self _) _).setCell (p := ⟨ab, 2, none⟩) (Nat.le_refl _) (Nat.lt_succ_self _) _
            have gE : Below D0 Dd (((W33q.setCell ⟨ab, 0, none⟩ (.int .i64 (rlQ nw))).setCell ⟨ab, 1, none⟩ (.int .i64 (rlU nw))).setCell ⟨ab, 2, none⟩ (.slice ya (rlN nw) ca)) := gD.trans (T.toBelow (Nat.le_trans hDs gD.size) hab)
            have HE : Hid (G (((W33q.setCell ⟨ab, 0, none⟩ (.int .i64 (rlQ nw))).setCell ⟨ab, 1, none⟩ (.int .i64 (rlU nw))).setCell ⟨ab, 2, none⟩ (.slice ya (rlN nw) ca))) := HUp.out _ gE
            have HO : Hid (RecsRead (((W33q.setCell ⟨ab, 0, none⟩ (.int .i64 (rlQ nw))).setCell ⟨ab, 1, none⟩ (.int .i64 (rlU nw))).setCell ⟨ab, 2, none⟩ (.slice ya (rlN nw) ca)) ya (rlN nw) (lgR nw) Da) := (hO.turned T hpos).recs
            obtain ⟨a0, a1, a2, f0, f1, f2⟩ := hN
            have HC2 : Hid ((((W33q.setCell ⟨ab, 0, none⟩ (.int .i64 (rlQ nw))).setCell ⟨ab, 1, none⟩ (.int .i64 (rlU nw))).setCell ⟨ab, 2, none⟩ (.slice ya (rlN nw) ca)).cell? ⟨ab, 2, none⟩ = some (.slice ya (rlN nw) ca)) := World.cell?_setCell_same _ _ _ (by rw [World.cell?_setCell_other _ _ _ _ (by simp), World.cell?_setCell_other _ _ _ _ (by simp)]; exact a2)
            refine wpAnyH_ready (rs := [11]) (by kernel_rfl) (by simp) ?_
            refine AllReadyH.cons rfl (fun K hK => ?_) AllReadyH.nil
            go_simp
            refine hK.out _ _ HE.out (fun hHeld => ?_)
            clear hK K
            try simp only [Act.put]
            try simp only [List.setIfInBounds_toArray]
            try simp only [List.set]
            refine wpAnyH_done (by kernel_rfl) ?_ _
            go_wp2_with fail
            go_meet
            case rel => exact ⟨ab, ya, ca, Da, rfl, HE.out, HC2.out, HO.out, hca, hca2⟩
        · have gg : Below Dd.heap.size Dd (Dd.alloc (.cells #[.int .i64 0, .int .i64 0, .slice none 0 0] 30)) := by go_grown
          have hab : D0 ≤ Dd.heap.size := Nat.le_trans hDs gD.size
          have hN : N3 (Dd.alloc (.cells #[.int .i64 0, .int .i64 0, .slice none 0 0] 30)) Dd.heap.size := ⟨by simp [go_sem], by simp [go_sem], by simp [go_sem], by simp [go_sem], by simp [go_sem], by simp [go_sem]⟩
          have gD := gD.trans (gg.mono (Nat.le_trans hDs gD.size))
          go_simp
          refine hK.out _ _ (HUp.out _ gD) (fun hHeld => ?_)
          clear hK K gg
          generalize Dd.alloc (.cells #[.int .i64 0, .int .i64 0, .slice none 0 0] 30) = W34q at hHeld hN gD ⊢
          generalize Dd.heap.size = ab at hN hab ⊢
          try simp only [Act.put]
          try simp only [List.setIfInBounds_toArray]
          try simp only [List.set]
          refine wpAnyH_ready (rs := [0]) (by kernel_rfl) (by simp) ?_
          refine AllReadyH.cons rfl (fun K hK => ?_) AllReadyH.nil
          have gg : Below W34q.heap.size W34q (W34q.alloc (.cells #[] 5)) := by go_grown
          have hG : Gb W34q.heap.size (W34q.alloc (.cells #[] 5)) (.slice (some ⟨W34q.heap.size, 0, none⟩) 0 0) [] := Gb.lit _ _ (Nat.le_refl _)
          have hNl := hN.lt
          have hN := hN.up gg
          have hne : ∀ g, (Value.slice (some ⟨W34q.heap.size, 0, none⟩) 0 0).ownBlock = some g → g ≠ ab := fun g e => by simp [Value.ownBlock] at e; omega
          have hG := hG.low (Nat.le_trans hDs gD.size)
          have gD := gD.trans (gg.mono (Nat.le_trans hDs gD.size))
          go_simp
          refine hK.out _ _ (HUp.out _ gD) (fun hHeld => ?_)
          clear hK K gg
          generalize (W34q.alloc (.cells #[] 5)) = W35q at hHeld gD hG hN ⊢
          generalize W34q.heap.size = bb at hG hne ⊢
          try simp only [Act.put]
          try simp only [List.setIfInBounds_toArray]
          try simp only [List.set]
          refine wpAnyH_ready (rs := [4]) (by kernel_rfl) (by simp) ?_
          refine AllReadyH.cons rfl (fun K hK => ?_) AllReadyH.nil
          refine wp_append_bytes _ _ _ rfl D0 (.slice (some ⟨bb, 0, none⟩) 0 0) [] us p5 us.length c5 rfl rfl rfl hG (FU.out _ (GF.out _ (HUp.out _ gD))) (by simp; omega) (Nat.le_trans hDs gD.size) ?_
          intro v4 W36q hG' hgr hat
          have gD' : Below D0 Dd W36q := Below.grown gD hgr (Nat.le_trans hDs gD.size) (fun q e => (World.ownsRow.lt hG q e).1)
          have hNl := hN.lt
          have hN := hN.blk (hgr.block ab hNl (fun e => hne ab e.symm rfl))
          have hne : ∀ g, v4.ownBlock = some g → g ≠ ab := fun g e => by
            rcases hat with h | h
            · exact hne g (h.symm.trans e)
            · rw [h] at e; injection e with e; omega
          have hG := hG'
          have gD := gD'
          clear hG' gD' hgr hat
          refine hK.out _ _ (HUp.out _ gD) (fun hHeld => ?_)
          clear hK K
          try simp only [Act.put]
          try simp only [List.setIfInBounds_toArray]
          try simp only [List.set]
          refine wpAnyH_ready (rs := [8]) (by kernel_rfl) (by simp) ?_
          refine AllReadyH.cons rfl (fun K hK => ?_) AllReadyH.nil
          refine wp_append_bytes _ _ _ rfl D0 v4 ([] ++ us) vs r5 vs.length d5 rfl rfl rfl hG (FV5.out _ (GF.out _ (HUp.out _ gD))) (by simp; omega) (Nat.le_trans hDs gD.size) ?_
          intro v5 W37q hG' hgr hat
          have gD' : Below D0 Dd W37q := Below.grown gD hgr (Nat.le_trans hDs gD.size) (fun q e => (World.ownsRow.lt hG q e).1)
          have hNl := hN.lt
          have hN := hN.blk (hgr.block ab hNl (fun e => hne ab e.symm rfl))
          have hne : ∀ g, v5.ownBlock = some g → g ≠ ab := fun g e => by
            rcases hat with h | h
            · exact hne g (h.symm.trans e)
            · rw [h] at e; injection e with e; omega
          have hG := hG'
          have gD := gD'
          clear hG' gD' hgr hat
          refine hK.out _ _ (HUp.out _ gD) (fun hHeld => ?_)
          clear hK K
          try simp only [Act.put]
          try simp only [List.setIfInBounds_toArray]
          try simp only [List.set]
          refine wpAnyH_ready (rs := [9]) (by kernel_rfl) (by simp) ?_
          refine AllReadyH.cons rfl (fun K hK => ?_) AllReadyH.nil
          have hG : Gb D0 W37q v5 nw := by have h := hG; rw [List.nil_append, HNw.out] at h; exact h
          obtain ⟨pz, cz, hvz, hz1, hz2, hzb, _⟩ := hG.shape
          subst hvz
          have hzr := hzb.reads
          clear hG hzb hne
          go_simp
          go_wp2_with (go_at_call 19; refine (HRn.out _ _ _ hz1 hz2 hzr).mono ?_; rintro e W38q ⟨ya, ca, Da, rfl, gg, hO, hca, hca2⟩)
          have hNl := hN.lt
          have hN := hN.up gg
          have hpos : W38q.heap.size ≤ ab ∨ ab + 1 ≤ W37q.heap.size := .inr hNl
          have gD := gD.trans (gg.mono (Nat.le_trans hDs gD.size))
          have hle : W38q.heap.size ≤ W38q.heap.size := Nat.le_refl _
          refine hK.out _ _ (HUp.out _ gD) (fun hHeld => ?_)
          clear hK K gg
          try simp only [Act.put]
          try simp only [List.setIfInBounds_toArray]
          try simp only [List.set]
          have T : Turned ab (ab + 1) W38q (((W38q.setCell ⟨ab, 0, none⟩ (.int .i64 (rlQ nw))).setCell ⟨ab, 1, none⟩ (.int .i64 (rlU nw))).setCell ⟨ab, 2, none⟩ (.slice ya (rlN nw) ca)) := (((Turned.refl _ _ W38q).setCell (p := ⟨ab, 0, none⟩) (Nat.le_refl _) (Nat.lt_succ_self _) _).setCell (p := ⟨ab, 1, none⟩) (Nat.le_refl _) (Nat.lt_succ_self _) _).setCell (p := ⟨ab, 2, none⟩) (Nat.le_refl _) (Nat.lt_succ_self _) _
          have gE : Below D0 Dd (((W38q.setCell ⟨ab, 0, none⟩ (.int .i64 (rlQ nw))).setCell ⟨ab, 1, none⟩ (.int .i64 (rlU nw))).setCell ⟨ab, 2, none⟩ (.slice ya (rlN nw) ca)) := gD.trans (T.toBelow (Nat.le_trans hDs gD.size) hab)
          have HE : Hid (G (((W38q.setCell ⟨ab, 0, none⟩ (.int .i64 (rlQ nw))).setCell ⟨ab, 1, none⟩ (.int .i64 (rlU nw))).setCell ⟨ab, 2, none⟩ (.slice ya (rlN nw) ca))) := HUp.out _ gE
          have HO : Hid (RecsRead (((W38q.setCell ⟨ab, 0, none⟩ (.int .i64 (rlQ nw))).setCell ⟨ab, 1, none⟩ (.int .i64 (rlU nw))).setCell ⟨ab, 2, none⟩ (.slice ya (rlN nw) ca)) ya (rlN nw) (lgR nw) Da) := (hO.turned T hpos).recs
          obtain ⟨a0, a1, a2, f0, f1, f2⟩ := hN
          have HC2 : Hid ((((W38q.setCell ⟨ab, 0, none⟩ (.int .i64 (rlQ nw))).setCell ⟨ab, 1, none⟩ (.int .i64 (rlU nw))).setCell ⟨ab, 2, none⟩ (.slice ya (rlN nw) ca)).cell? ⟨ab, 2, none⟩ = some (.slice ya (rlN nw) ca)) := World.cell?_setCell_same _ _ _ (by rw [World.cell?_setCell_other _ _ _ _ (by simp), World.cell?_setCell_other _ _ _ _ (by simp)]; exact a2)
          refine wpAnyH_ready (rs := [11]) (by kernel_rfl) (by simp) ?_
          refine AllReadyH.cons rfl (fun K hK => ?_) AllReadyH.nil
          go_simp
          refine hK.out _ _ HE.out (fun hHeld => ?_)
          clear hK K
          try simp only [Act.put]
          try simp only [List.setIfInBounds_toArray]
          try simp only [List.set]
          refine wpAnyH_done (by kernel_rfl) ?_ _
          go_wp2_with fail
          go_meet
          case rel => exact ⟨ab, ya, ca, Da, rfl, HE.out, HC2.out, HO.out, hca, hca2⟩
      case rest =>
      obtain ⟨b10, na, nc, Dn, rfl, hG, hB10, hN10, hnc, hnc2⟩ := hcut
      obtain ⟨N1, hN1⟩ : ∃ N1, rlN nw = N1 := ⟨_, rfl⟩
      rw [hN1] at hB10 hN10 hnc
      have hN1e : N1 = N + 1 := by rw [← hN1]; exact H4.out
      obtain ⟨ng, no, hna, hL1⟩ := RecsRead.last (n := N) (m := 1) (by rw [← hN1e]; exact hN10) (by omega)
      subst hna
      have hNs : N ≤ 1048576 := by rw [← H3.out]; exact (rlN_small al).1
      rw [H3.out] at GB9 GW hwc
      have HN1 : Hid (rlN nw = N1) := hN1
      have HN1e : Hid (N1 = N + 1) := hN1e
      clear hN1 hN1e H4 HRl
      have hB9 := GB9.out _ hG
      have hA1 := FA1.out _ (GF.out _ hG)
      have hA2 := FA2.out _ (GF.out _ hG)
      go_wp2_with fail
      refine (HSy.out _ (FU.out _ (GF.out _ hG)) (FV5.out _ (GF.out _ hG))).mono ?_
      rintro e w7 ⟨sa, sc, sr, sd, mid7, rfl, hs1, hs2, hs3, hs4, g7, hLi7⟩
      have hSa := hLi7.s.reads
      rw [List.length_nil]
      have hG := HGU.out _ _ g7 hG
      have hB10 := cellUp g7 hB10
      have hN10 := hN10.below g7 (Nat.le_refl _)
      have hL1 := hL1.below g7 (Nat.le_refl _)
      clear hLi7 g7 hB9 hA1 hA2 HSy hs2 hs4
      go_upto_region 17 with (fail)
      generalize hY : World.alloc w7 _ = Y7
      have gY : Below w7.heap.size w7 Y7 := by rw [← hY]; go_grown
      have S1 : Y7.cell? ⟨w7.heap.size, 1, none⟩ = some (.slice sa nw.length sc) := by rw [← hY]; simp [go_sem]
      have S2 : Y7.cell? ⟨w7.heap.size, 2, none⟩ = some (.slice sr 0 sd) := by rw [← hY]; simp [go_sem]
      have hG := HGU.out _ _ gY hG
      have hB10 := cellUp gY hB10
      have hN10 := hN10.below gY (Nat.le_refl _)
      have hL1 := hL1.below gY (Nat.le_refl _)
      have hSa := hSa.below gY (Nat.le_refl _)
      clear hY gY
      generalize w7.heap.size = b12 at S1 S2 ⊢
      obtain ⟨T, hTd⟩ : ∃ T : World → Prop, T = fun V => (G V) ∧ (V.cell? ⟨b10, 2, none⟩ = some (.slice (some ⟨ng, no, none⟩) N1 nc)) ∧ (RecsRead V (some ⟨ng, no, none⟩) N1 (lgR nw) Dn) ∧ (RecsRead V (some ⟨ng, no + N * 4, none⟩) 1 (fun i => lgR nw (N + i)) (fun i => Dn (N + i))) ∧ (V.cell? ⟨b12, 1, none⟩ = some (.slice sa nw.length sc)) ∧ (V.cell? ⟨b12, 2, none⟩ = some (.slice sr 0 sd)) ∧ (Reads V sa nw) := ⟨_, rfl⟩
      have hT : T Y7 := by rw [hTd]; exact ⟨hG, hB10, hN10, hL1, S1, S2, hSa⟩
      have HTU : Hid (∀ V W, Below V.heap.size V W → T V → T W) := fun V W hb h => by
        rw [hTd] at h ⊢
        exact ⟨HGU.out _ _ hb h.1, cellUp hb h.2.1, h.2.2.1.below hb (Nat.le_refl _), h.2.2.2.1.below hb (Nat.le_refl _), cellUp hb h.2.2.2.2.1, cellUp hb h.2.2.2.2.2.1, h.2.2.2.2.2.2.below hb (Nat.le_refl _)⟩
      have TG : Hid (∀ V, T V → G V) := fun V h => by rw [hTd] at h; exact h.1
      have TB10 : Hid (∀ V, T V → V.cell? ⟨b10, 2, none⟩ = some (.slice (some ⟨ng, no, none⟩) N1 nc)) := fun V h => by rw [hTd] at h; exact h.2.1
      have TN : Hid (∀ V, T V → RecsRead V (some ⟨ng, no, none⟩) N1 (lgR nw) Dn) := fun V h => by rw [hTd] at h; exact h.2.2.1
      have TN1 : Hid (∀ V, T V → RecsRead V (some ⟨ng, no + N * 4, none⟩) 1 (fun i => lgR nw (N + i)) (fun i => Dn (N + i))) := fun V h => by rw [hTd] at h; exact h.2.2.2.1
      have TB12a : Hid (∀ V, T V → V.cell? ⟨b12, 1, none⟩ = some (.slice sa nw.length sc)) := fun V h => by rw [hTd] at h; exact h.2.2.2.2.1
      have TB12b : Hid (∀ V, T V → V.cell? ⟨b12, 2, none⟩ = some (.slice sr 0 sd)) := fun V h => by rw [hTd] at h; exact h.2.2.2.2.2.1
      have TSa : Hid (∀ V, T V → Reads V sa nw) := fun V h => by rw [hTd] at h; exact h.2.2.2.2.2.2
      clear hTd
      clear hG hB10 hN10 hL1 S1 S2 hSa
      have hN1i : (N : Int) ≤ (N1 : Int) := by have := HN1e.out; omega
      have hN1c : (N1 : Int) ≤ (nc : Int) := by omega
      have hNc : N ≤ nc := by have := HN1e.out; omega
      have hNci : (N : Int) ≤ (nc : Int) := by omega
      have hsub : N1 - N = 1 := by have := HN1e.out; omega
      have hwr : IntKind.i64.wrap ((N : Int) + 1) = (N : Int) + 1 := by simp [IntKind.wrap, IntKind.bits, IntKind.signed]; omega
      have hne1 : ((N1 : Int) != (N : Int) + 1) = false := by have := HN1e.out; simp; omega
      have HC1 : Hid (∀ X, RecsRead X (some ⟨ng, no, none⟩) N1 (lgR nw) Dn → RecsRead X wa N (lgR al) Dw → Calls Try.prog 24 #[.slice (some ⟨ng, no, none⟩) N nc, .slice wa N wcp] X fun e w' => e = .returned (.bool true) ∧ Below X.heap.size X w') := fun X h1 h2 => by
        have h := implSameRecords_any (some ⟨ng, no, none⟩) wa N N nc wcp (lgR nw) (lgR al) Dn Dw X hNs hNs (h1.first (by have := HN1e.out; omega)) h2 (fun i _ => ⟨by have := lgR_small nw i; omega, fun j _ => lgR_bd HVb.out i j⟩) (fun i _ => ⟨by have := lgR_small al i; omega, fun j _ => lgR_bd HAb.out i j⟩)
        rw [H5.out] at h
        exact h
      have HC2 : Hid (∀ X g, RecsRead X (some ⟨ng, no + N * 4, none⟩) 1 (fun i => lgR nw (N + i)) (fun i => Dn (N + i)) → RecsRead X (some ⟨g, 0, none⟩) 1 (fun _ => r) (fun _ => ⟨aa, ec, A, C, fun _ => 0, 0, 0⟩) → Calls Try.prog 24 #[.slice (some ⟨ng, no + N * 4, none⟩) 1 (nc - N), .slice (some ⟨g, 0, none⟩) 1 1] X fun e w' => e = .returned (.bool true) ∧ Below X.heap.size X w') := fun X g h1 h2 => by
        have h := implSameRecords_any (some ⟨ng, no + N * 4, none⟩) (some ⟨g, 0, none⟩) 1 1 (nc - N) 1 (fun i => lgR nw (N + i)) (fun _ => r) (fun i => Dn (N + i)) (fun _ => ⟨aa, ec, A, C, fun _ => 0, 0, 0⟩) X (by omega) (by omega) h1 h2 (fun i _ => (⟨by have := lgR_small nw (N + i); omega, fun j _ => lgR_bd HVb.out (N + i) j⟩ : (lgR nw (N + i)).n ≤ 1048576 ∧ ∀ j, j < (lgR nw (N + i)).n → ∀ z ∈ (lgR nw (N + i)).Z j, 0 ≤ z ∧ z ≤ 255)) (fun i _ => by rw [HR.out]; exact (⟨by have := hOk.few; omega, hOk.bd⟩ : l ≤ 1048576 ∧ ∀ j, j < l → ∀ z ∈ Z j, 0 ≤ z ∧ z ≤ 255))
        rw [H6.out] at h
        exact h
      refine wp_region_held_drew (S := T) (by kernel_rfl) (HTU.out _ _ (Below.refl _ Y7).drew hT) (fun hHeld => ?_)
      generalize Y7.drew = V at hHeld ⊢
      clear hT
      refine wpAnyH_take (i := 0) (v := ?v23) rfl (by kernel_rfl) (by kernel_rfl) (by kernel_rfl) (fun _ _ _ h => h) (Or.inl ⟨by kernel_rfl, ?h23⟩) hHeld ?_
      case h23 => intro u hSw; (try dsimp only at hSw); go_simp; try with_reducible rfl
      try simp only [List.getElem_toArray]
      try simp only [List.getElem_cons_succ]
      try simp only [List.getElem_cons_zero]
      try simp only [Act.put]
      try simp only [List.setIfInBounds_toArray]
      try simp only [List.set]
      refine wpAnyH_take (i := 1) (v := ?v24) rfl (by kernel_rfl) (by kernel_rfl) (by kernel_rfl) (fun _ _ _ h => h) (Or.inl ⟨by kernel_rfl, ?h24⟩) hHeld ?_
      case h24 => intro u hSw; have q0 := TB10.out _ hSw; clear hSw; go_simp; try with_reducible rfl
      try simp only [List.getElem_toArray]
      try simp only [List.getElem_cons_succ]
      try simp only [List.getElem_cons_zero]
      try simp only [Act.put]
      try simp only [List.setIfInBounds_toArray]
      try simp only [List.set]
      refine wpAnyH_take (i := 2) (v := ?v25) rfl (by kernel_rfl) (by kernel_rfl) (by kernel_rfl) (fun _ _ _ h => h) (Or.inl ⟨by kernel_rfl, ?h25⟩) hHeld ?_
      case h25 => intro u hSw; (try dsimp only at hSw); go_simp; try with_reducible rfl
      try simp only [List.getElem_toArray]
      try simp only [List.getElem_cons_succ]
      try simp only [List.getElem_cons_zero]
      try simp only [Act.put]
      try simp only [List.setIfInBounds_toArray]
      try simp only [List.set]
      refine wpAnyH_take (i := 3) (v := ?v26) rfl (by kernel_rfl) (by kernel_rfl) (by kernel_rfl) (fun _ _ _ h => h) (Or.inl ⟨by kernel_rfl, ?h26⟩) hHeld ?_
      case h26 => intro u hSw; (try dsimp only at hSw); go_simp; try with_reducible rfl
      try simp only [List.getElem_toArray]
      try simp only [List.getElem_cons_succ]
      try simp only [List.getElem_cons_zero]
      try simp only [Act.put]
      try simp only [List.setIfInBounds_toArray]
      try simp only [List.set]
      refine wpAnyH_take (i := 4) (v := ?v27) rfl (by kernel_rfl) (by kernel_rfl) (by kernel_rfl) (fun _ _ _ h => h) (Or.inl ⟨by kernel_rfl, ?h27⟩) hHeld ?_
      case h27 => intro u hSw; (try dsimp only at hSw); go_simp; try with_reducible rfl
      try simp only [List.getElem_toArray]
      try simp only [List.getElem_cons_succ]
      try simp only [List.getElem_cons_zero]
      try simp only [Act.put]
      try simp only [List.setIfInBounds_toArray]
      try simp only [List.set]
      refine wpAnyH_take (i := 5) (v := ?v28) rfl (by kernel_rfl) (by kernel_rfl) (by kernel_rfl) (fun _ _ _ h => h) (Or.inl ⟨by kernel_rfl, ?h28⟩) hHeld ?_
      case h28 => intro u hSw; (try dsimp only at hSw); go_simp; try with_reducible rfl
      try simp only [List.getElem_toArray]
      try simp only [List.getElem_cons_succ]
      try simp only [List.getElem_cons_zero]
      try simp only [Act.put]
      try simp only [List.setIfInBounds_toArray]
      try simp only [List.set]
      refine wpAnyH_take (i := 6) (v := ?v29) rfl (by kernel_rfl) (by kernel_rfl) (by kernel_rfl) (fun _ _ _ h => h) (Or.inl ⟨by kernel_rfl, ?h29⟩) hHeld ?_
      case h29 => intro u hSw; (try dsimp only at hSw); go_simp; try with_reducible rfl
      try simp only [List.getElem_toArray]
      try simp only [List.getElem_cons_succ]
      try simp only [List.getElem_cons_zero]
      try simp only [Act.put]
      try simp only [List.setIfInBounds_toArray]
      try simp only [List.set]
      refine wpAnyH_take (i := 7) (v := ?v30) rfl (by kernel_rfl) (by kernel_rfl) (by kernel_rfl) (fun _ _ _ h => h) (Or.inl ⟨by kernel_rfl, ?h30⟩) hHeld ?_
      case h30 => intro u hSw; (try dsimp only at hSw); go_simp; try with_reducible rfl
      try simp only [List.getElem_toArray]
      try simp only [List.getElem_cons_succ]
      try simp only [List.getElem_cons_zero]
      try simp only [Act.put]
      try simp only [List.setIfInBounds_toArray]
      try simp only [List.set]
      refine wpAnyH_take (i := 8) (v := ?v31) rfl (by kernel_rfl) (by kernel_rfl) (by kernel_rfl) (fun _ _ _ h => h) (Or.inl ⟨by kernel_rfl, ?h31⟩) hHeld ?_
      case h31 => intro u hSw; have q0 := TB10.out _ hSw; clear hSw; go_simp; try with_reducible rfl
      try simp only [List.getElem_toArray]
      try simp only [List.getElem_cons_succ]
      try simp only [List.getElem_cons_zero]
      try simp only [Act.put]
      try simp only [List.setIfInBounds_toArray]
      try simp only [List.set]
      refine wpAnyH_take (i := 9) (v := ?v32) rfl (by kernel_rfl) (by kernel_rfl) (by kernel_rfl) (fun _ _ _ h => h) (Or.inl ⟨by kernel_rfl, ?h32⟩) hHeld ?_
      case h32 => intro u hSw; (try dsimp only at hSw); go_simp; try with_reducible rfl
      try simp only [List.getElem_toArray]
      try simp only [List.getElem_cons_succ]
      try simp only [List.getElem_cons_zero]
      try simp only [Act.put]
      try simp only [List.setIfInBounds_toArray]
      try simp only [List.set]
      refine wpAnyH_take (i := 10) (v := ?v33) rfl (by kernel_rfl) (by kernel_rfl) (by kernel_rfl) (fun _ _ _ h => h) (Or.inl ⟨by kernel_rfl, ?h33⟩) hHeld ?_
      case h33 => intro u hSw; (try dsimp only at hSw); go_simp; try with_reducible rfl
      try simp only [List.getElem_toArray]
      try simp only [List.getElem_cons_succ]
      try simp only [List.getElem_cons_zero]
      try simp only [Act.put]
      try simp only [List.setIfInBounds_toArray]
      try simp only [List.set]
      refine wpAnyH_take (i := 11) (v := ?v34) rfl (by kernel_rfl) (by kernel_rfl) (by kernel_rfl) (fun _ _ _ h => h) (Or.inl ⟨by kernel_rfl, ?h34⟩) hHeld ?_
      case h34 => intro u hSw; (try dsimp only at hSw); go_simp; try with_reducible rfl
      try simp only [List.getElem_toArray]
      try simp only [List.getElem_cons_succ]
      try simp only [List.getElem_cons_zero]
      try simp only [Act.put]
      try simp only [List.setIfInBounds_toArray]
      try simp only [List.set]
      refine wpAnyH_take (i := 12) (v := ?v35) rfl (by kernel_rfl) (by kernel_rfl) (by kernel_rfl) (fun _ _ _ h => h) (Or.inl ⟨by kernel_rfl, ?h35⟩) hHeld ?_
      case h35 => intro u hSw; have q0 := GB9.out _ (TG.out _ hSw); clear hSw; go_simp; try with_reducible rfl
      try simp only [List.getElem_toArray]
      try simp only [List.getElem_cons_succ]
      try simp only [List.getElem_cons_zero]
      try simp only [Act.put]
      try simp only [List.setIfInBounds_toArray]
      try simp only [List.set]
      refine wpAnyH_ready (rs := [13]) (by kernel_rfl) (by simp) ?_
      refine AllReadyH.cons rfl (fun K hK => ?_) AllReadyH.nil
      go_simp
      go_wp2_with (go_at_call 24; refine (HC1.out _ (TN.out _ hHeld) (GW.out _ (TG.out _ hHeld))).mono ?_; rintro e w8 ⟨rfl, hb⟩)
      refine hK.out _ _ (HTU.out _ _ hb hHeld) (fun hHeld => ?_)
      clear hK K
      clear hb
      try simp only [Act.put]
      try simp only [List.setIfInBounds_toArray]
      try simp only [List.set]
      refine wpAnyH_take (i := 14) (v := ?v36) rfl (by kernel_rfl) (by kernel_rfl) (by kernel_rfl) (fun _ _ _ h => h) (Or.inl ⟨by kernel_rfl, ?h36⟩) hHeld ?_
      case h36 => intro u hSw; (try dsimp only at hSw); go_simp; try with_reducible rfl
      try simp only [List.getElem_toArray]
      try simp only [List.getElem_cons_succ]
      try simp only [List.getElem_cons_zero]
      try simp only [Act.put]
      try simp only [List.setIfInBounds_toArray]
      try simp only [List.set]
      refine wpAnyH_take (i := 15) (v := ?v37) rfl (by kernel_rfl) (by kernel_rfl) (by kernel_rfl) (fun _ _ _ h => h) (Or.inl ⟨by kernel_rfl, ?h37⟩) hHeld ?_
      case h37 => intro u hSw; (try dsimp only at hSw); go_simp; try with_reducible rfl
      try simp only [List.getElem_toArray]
      try simp only [List.getElem_cons_succ]
      try simp only [List.getElem_cons_zero]
      try simp only [Act.put]
      try simp only [List.setIfInBounds_toArray]
      try simp only [List.set]
      refine wpAnyH_take (i := 16) (v := ?v38) rfl (by kernel_rfl) (by kernel_rfl) (by kernel_rfl) (fun _ _ _ h => h) (Or.inl ⟨by kernel_rfl, ?h38⟩) hHeld ?_
      case h38 => intro u hSw; (try dsimp only at hSw); go_simp; try with_reducible rfl
      try simp only [List.getElem_toArray]
      try simp only [List.getElem_cons_succ]
      try simp only [List.getElem_cons_zero]
      try simp only [Act.put]
      try simp only [List.setIfInBounds_toArray]
      try simp only [List.set]
      refine wpAnyH_take (i := 17) (v := ?v39) rfl (by kernel_rfl) (by kernel_rfl) (by kernel_rfl) (fun _ _ _ h => h) (Or.inl ⟨by kernel_rfl, ?h39⟩) hHeld ?_
      case h39 => intro u hSw; (try dsimp only at hSw); go_simp; try with_reducible rfl
      try simp only [List.getElem_toArray]
      try simp only [List.getElem_cons_succ]
      try simp only [List.getElem_cons_zero]
      try simp only [Act.put]
      try simp only [List.setIfInBounds_toArray]
      try simp only [List.set]
      refine wpAnyH_take (i := 18) (v := ?v40) rfl (by kernel_rfl) (by kernel_rfl) (by kernel_rfl) (fun _ _ _ h => h) (Or.inl ⟨by kernel_rfl, ?h40⟩) hHeld ?_
      case h40 => intro u hSw; have q0 := TB10.out _ hSw; clear hSw; go_simp; try with_reducible rfl
      try simp only [List.getElem_toArray]
      try simp only [List.getElem_cons_succ]
      try simp only [List.getElem_cons_zero]
      try simp only [Act.put]
      try simp only [List.setIfInBounds_toArray]
      try simp only [List.set]
      refine wpAnyH_take (i := 19) (v := ?v41) rfl (by kernel_rfl) (by kernel_rfl) (by kernel_rfl) (fun _ _ _ h => h) (Or.inl ⟨by kernel_rfl, ?h41⟩) hHeld ?_
      case h41 => intro u hSw; (try dsimp only at hSw); go_simp; try with_reducible rfl
      try simp only [List.getElem_toArray]
      try simp only [List.getElem_cons_succ]
      try simp only [List.getElem_cons_zero]
      try simp only [Act.put]
      try simp only [List.setIfInBounds_toArray]
      try simp only [List.set]
      refine wpAnyH_take (i := 20) (v := ?v42) rfl (by kernel_rfl) (by kernel_rfl) (by kernel_rfl) (fun _ _ _ h => h) (Or.inl ⟨by kernel_rfl, ?h42⟩) hHeld ?_
      case h42 => intro u hSw; (try dsimp only at hSw); go_simp; try with_reducible rfl
      try simp only [List.getElem_toArray]
      try simp only [List.getElem_cons_succ]
      try simp only [List.getElem_cons_zero]
      try simp only [Act.put]
      try simp only [List.setIfInBounds_toArray]
      try simp only [List.set]
      refine wpAnyH_take (i := 21) (v := ?v43) rfl (by kernel_rfl) (by kernel_rfl) (by kernel_rfl) (fun _ _ _ h => h) (Or.inl ⟨by kernel_rfl, ?h43⟩) hHeld ?_
      case h43 => intro u hSw; obtain ⟨q0, q1, q3, q4⟩ := FRc.out _ (GF.out _ (TG.out _ hSw)); clear hSw; go_simp; try with_reducible rfl
      try simp only [List.getElem_toArray]
      try simp only [List.getElem_cons_succ]
      try simp only [List.getElem_cons_zero]
      try simp only [Act.put]
      try simp only [List.setIfInBounds_toArray]
      try simp only [List.set]
      refine wpAnyH_ready (rs := [22]) (by kernel_rfl) (by simp) ?_
      refine AllReadyH.cons rfl (fun K hK => ?_) AllReadyH.nil
      have gb : Below w8.heap.size w8 (w8.alloc (.cells #[.int .i64 k, .int .i64 tx, .int .i64 pg, .slice aa l ec] 36)) := by go_grown
      have hT2 := HTU.out _ _ gb hHeld
      have hOne : RecsRead (w8.alloc (.cells #[.int .i64 k, .int .i64 tx, .int .i64 pg, .slice aa l ec] 36)) (some ⟨w8.heap.size, 0, none⟩) 1 (fun _ => r) (fun _ => ⟨aa, ec, A, C, fun _ => 0, 0, 0⟩) := by
        rw [HR.out]
        exact recs_one (by simp [go_sem]) (by simp [go_sem]) (by simp [go_sem]) (by simp [go_sem]) (FRn.out _ (GF.out _ (TG.out _ hT2)))
      go_simp
      go_wp2_with fail
      refine hK.out _ _ hT2 (fun hHeld => ?_)
      clear hK K gb hT2
      generalize w8.heap.size = g8 at hOne ⊢
      generalize w8.alloc (.cells #[.int .i64 k, .int .i64 tx, .int .i64 pg, .slice aa l ec] 36) = w9 at hOne hHeld ⊢
      try simp only [Act.put]
      try simp only [List.setIfInBounds_toArray]
      try simp only [List.set]
      refine wpAnyH_ready (rs := [23]) (by kernel_rfl) (by simp) ?_
      refine AllReadyH.cons rfl (fun K hK => ?_) AllReadyH.nil
      go_simp
      go_wp2_with (go_at_call 24; refine (HC2.out _ _ (TN1.out _ hHeld) hOne).mono ?_; rintro e w10 ⟨rfl, hb⟩)
      refine hK.out _ _ (HTU.out _ _ hb hHeld) (fun hHeld => ?_)
      clear hK K
      clear hb hOne
      try simp only [Act.put]
      try simp only [List.setIfInBounds_toArray]
      try simp only [List.set]
      refine wpAnyH_take (i := 24) (v := ?v44) rfl (by kernel_rfl) (by kernel_rfl) (by kernel_rfl) (fun _ _ _ h => h) (Or.inl ⟨by kernel_rfl, ?h44⟩) hHeld ?_
      case h44 => intro u hSw; (try dsimp only at hSw); go_simp; try with_reducible rfl
      try simp only [List.getElem_toArray]
      try simp only [List.getElem_cons_succ]
      try simp only [List.getElem_cons_zero]
      try simp only [Act.put]
      try simp only [List.setIfInBounds_toArray]
      try simp only [List.set]
      refine wpAnyH_take (i := 25) (v := ?v45) rfl (by kernel_rfl) (by kernel_rfl) (by kernel_rfl) (fun _ _ _ h => h) (Or.inl ⟨by kernel_rfl, ?h45⟩) hHeld ?_
      case h45 => intro u hSw; (try dsimp only at hSw); go_simp; try with_reducible rfl
      try simp only [List.getElem_toArray]
      try simp only [List.getElem_cons_succ]
      try simp only [List.getElem_cons_zero]
      try simp only [Act.put]
      try simp only [List.setIfInBounds_toArray]
      try simp only [List.set]
      refine wpAnyH_take (i := 26) (v := ?v46) rfl (by kernel_rfl) (by kernel_rfl) (by kernel_rfl) (fun _ _ _ h => h) (Or.inl ⟨by kernel_rfl, ?h46⟩) hHeld ?_
      case h46 => intro u hSw; (try dsimp only at hSw); go_simp; try with_reducible rfl
      try simp only [List.getElem_toArray]
      try simp only [List.getElem_cons_succ]
      try simp only [List.getElem_cons_zero]
      try simp only [Act.put]
      try simp only [List.setIfInBounds_toArray]
      try simp only [List.set]
      refine wpAnyH_take (i := 27) (v := ?v47) rfl (by kernel_rfl) (by kernel_rfl) (by kernel_rfl) (fun _ _ _ h => h) (Or.inl ⟨by kernel_rfl, ?h47⟩) hHeld ?_
      case h47 => intro u hSw; (try dsimp only at hSw); go_simp; try with_reducible rfl
      try simp only [List.getElem_toArray]
      try simp only [List.getElem_cons_succ]
      try simp only [List.getElem_cons_zero]
      try simp only [Act.put]
      try simp only [List.setIfInBounds_toArray]
      try simp only [List.set]
      refine wpAnyH_take (i := 28) (v := ?v48) rfl (by kernel_rfl) (by kernel_rfl) (by kernel_rfl) (fun _ _ _ h => h) (Or.inl ⟨by kernel_rfl, ?h48⟩) hHeld ?_
      case h48 => intro u hSw; (try dsimp only at hSw); go_simp; try with_reducible rfl
      try simp only [List.getElem_toArray]
      try simp only [List.getElem_cons_succ]
      try simp only [List.getElem_cons_zero]
      try simp only [Act.put]
      try simp only [List.setIfInBounds_toArray]
      try simp only [List.set]
      refine wpAnyH_take (i := 29) (v := ?v49) rfl (by kernel_rfl) (by kernel_rfl) (by kernel_rfl) (fun _ _ _ h => h) (Or.inl ⟨by kernel_rfl, ?h49⟩) hHeld ?_
      case h49 => intro u hSw; have q0 := TB12b.out _ hSw; clear hSw; go_simp; try with_reducible rfl
      try simp only [List.getElem_toArray]
      try simp only [List.getElem_cons_succ]
      try simp only [List.getElem_cons_zero]
      try simp only [Act.put]
      try simp only [List.setIfInBounds_toArray]
      try simp only [List.set]
      refine wpAnyH_take (i := 30) (v := ?v50) rfl (by kernel_rfl) (by kernel_rfl) (by kernel_rfl) (fun _ _ _ h => h) (Or.inl ⟨by kernel_rfl, ?h50⟩) hHeld ?_
      case h50 => intro u hSw; (try dsimp only at hSw); go_simp; try with_reducible rfl
      try simp only [List.getElem_toArray]
      try simp only [List.getElem_cons_succ]
      try simp only [List.getElem_cons_zero]
      try simp only [Act.put]
      try simp only [List.setIfInBounds_toArray]
      try simp only [List.set]
      refine wpAnyH_take (i := 31) (v := ?v51) rfl (by kernel_rfl) (by kernel_rfl) (by kernel_rfl) (fun _ _ _ h => h) (Or.inl ⟨by kernel_rfl, ?h51⟩) hHeld ?_
      case h51 => intro u hSw; (try dsimp only at hSw); go_simp; try with_reducible rfl
      try simp only [List.getElem_toArray]
      try simp only [List.getElem_cons_succ]
      try simp only [List.getElem_cons_zero]
      try simp only [Act.put]
      try simp only [List.setIfInBounds_toArray]
      try simp only [List.set]
      refine wpAnyH_take (i := 32) (v := ?v52) rfl (by kernel_rfl) (by kernel_rfl) (by kernel_rfl) (fun _ _ _ h => h) (Or.inl ⟨by kernel_rfl, ?h52⟩) hHeld ?_
      case h52 => intro u hSw; (try dsimp only at hSw); go_simp; try with_reducible rfl
      try simp only [List.getElem_toArray]
      try simp only [List.getElem_cons_succ]
      try simp only [List.getElem_cons_zero]
      try simp only [Act.put]
      try simp only [List.setIfInBounds_toArray]
      try simp only [List.set]
      refine wpAnyH_take (i := 33) (v := ?v53) rfl (by kernel_rfl) (by kernel_rfl) (by kernel_rfl) (fun _ _ _ h => h) (Or.inl ⟨by kernel_rfl, ?h53⟩) hHeld ?_
      case h53 => intro u hSw; (try dsimp only at hSw); go_simp; try with_reducible rfl
      try simp only [List.getElem_toArray]
      try simp only [List.getElem_cons_succ]
      try simp only [List.getElem_cons_zero]
      try simp only [Act.put]
      try simp only [List.setIfInBounds_toArray]
      try simp only [List.set]
      refine wpAnyH_take (i := 34) (v := ?v54) rfl (by kernel_rfl) (by kernel_rfl) (by kernel_rfl) (fun _ _ _ h => h) (Or.inl ⟨by kernel_rfl, ?h54⟩) hHeld ?_
      case h54 => intro u hSw; (try dsimp only at hSw); go_simp; try with_reducible rfl
      try simp only [List.getElem_toArray]
      try simp only [List.getElem_cons_succ]
      try simp only [List.getElem_cons_zero]
      try simp only [Act.put]
      try simp only [List.setIfInBounds_toArray]
      try simp only [List.set]
      refine wpAnyH_take (i := 35) (v := ?v55) rfl (by kernel_rfl) (by kernel_rfl) (by kernel_rfl) (fun _ _ _ h => h) (Or.inl ⟨by kernel_rfl, ?h55⟩) hHeld ?_
      case h55 => intro u hSw; (try dsimp only at hSw); go_simp; try with_reducible rfl
      try simp only [List.getElem_toArray]
      try simp only [List.getElem_cons_succ]
      try simp only [List.getElem_cons_zero]
      try simp only [Act.put]
      try simp only [List.setIfInBounds_toArray]
      try simp only [List.set]
      refine wpAnyH_take (i := 36) (v := ?v56) rfl (by kernel_rfl) (by kernel_rfl) (by kernel_rfl) (fun _ _ _ h => h) (Or.inl ⟨by kernel_rfl, ?h56⟩) hHeld ?_
      case h56 => intro u hSw; have q0 := TB12a.out _ hSw; clear hSw; go_simp; try with_reducible rfl
      try simp only [List.getElem_toArray]
      try simp only [List.getElem_cons_succ]
      try simp only [List.getElem_cons_zero]
      try simp only [Act.put]
      try simp only [List.setIfInBounds_toArray]
      try simp only [List.set]
      refine wpAnyH_take (i := 40) (v := ?v57) rfl (by kernel_rfl) (by kernel_rfl) (by kernel_rfl) (fun _ _ _ h => h) (Or.inl ⟨by kernel_rfl, ?h57⟩) hHeld ?_
      case h57 => intro u hSw; (try dsimp only at hSw); go_simp; try with_reducible rfl
      try simp only [List.getElem_toArray]
      try simp only [List.getElem_cons_succ]
      try simp only [List.getElem_cons_zero]
      try simp only [Act.put]
      try simp only [List.setIfInBounds_toArray]
      try simp only [List.set]
      refine wpAnyH_take (i := 41) (v := ?v58) rfl (by kernel_rfl) (by kernel_rfl) (by kernel_rfl) (fun _ _ _ h => h) (Or.inl ⟨by kernel_rfl, ?h58⟩) hHeld ?_
      case h58 => intro u hSw; (try dsimp only at hSw); go_simp; try with_reducible rfl
      try simp only [List.getElem_toArray]
      try simp only [List.getElem_cons_succ]
      try simp only [List.getElem_cons_zero]
      try simp only [Act.put]
      try simp only [List.setIfInBounds_toArray]
      try simp only [List.set]
      refine wpAnyH_ready (rs := [37]) (by kernel_rfl) (by simp) ?_
      refine AllReadyH.cons rfl (fun K hK => ?_) AllReadyH.nil
      go_simp
      go_wp2_with (go_at_call 19; refine (HRn.out _ _ _ hs1 hs3 (TSa.out _ hHeld)).mono ?_; intro e w11 hp; obtain ⟨aw, cw, Dw', he, hb, _, _, _⟩ := hp; rw [HN1.out] at he; subst he)
      refine hK.out _ _ (HTU.out _ _ hb hHeld) (fun hHeld => ?_)
      clear hK K
      clear hb
      try simp only [Act.put]
      try simp only [List.setIfInBounds_toArray]
      try simp only [List.set]
      refine wpAnyH_take (i := 38) (v := ?v59) rfl (by kernel_rfl) (by kernel_rfl) (by kernel_rfl) (fun _ _ _ h => h) (Or.inl ⟨by kernel_rfl, ?h59⟩) hHeld ?_
      case h59 => intro u hSw; (try dsimp only at hSw); go_simp; try with_reducible rfl
      try simp only [List.getElem_toArray]
      try simp only [List.getElem_cons_succ]
      try simp only [List.getElem_cons_zero]
      try simp only [Act.put]
      try simp only [List.setIfInBounds_toArray]
      try simp only [List.set]
      refine wpAnyH_take (i := 39) (v := ?v60) rfl (by kernel_rfl) (by kernel_rfl) (by kernel_rfl) (fun _ _ _ h => h) (Or.inl ⟨by kernel_rfl, ?h60⟩) hHeld ?_
      case h60 => intro u hSw; (try dsimp only at hSw); go_simp; try with_reducible rfl
      try simp only [List.getElem_toArray]
      try simp only [List.getElem_cons_succ]
      try simp only [List.getElem_cons_zero]
      try simp only [Act.put]
      try simp only [List.setIfInBounds_toArray]
      try simp only [List.set]
      refine wpAnyH_take (i := 42) (v := ?v61) rfl (by kernel_rfl) (by kernel_rfl) (by kernel_rfl) (fun _ _ _ h => h) (Or.inl ⟨by kernel_rfl, ?h61⟩) hHeld ?_
      case h61 => intro u hSw; (try dsimp only at hSw); go_simp; try with_reducible rfl
      try simp only [List.getElem_toArray]
      try simp only [List.getElem_cons_succ]
      try simp only [List.getElem_cons_zero]
      try simp only [Act.put]
      try simp only [List.setIfInBounds_toArray]
      try simp only [List.set]
      refine wpAnyH_take (i := 43) (v := ?v62) rfl (by kernel_rfl) (by kernel_rfl) (by kernel_rfl) (fun _ _ _ h => h) (Or.inl ⟨by kernel_rfl, ?h62⟩) hHeld ?_
      case h62 => intro u hSw; (try dsimp only at hSw); go_simp; try with_reducible rfl
      try simp only [List.getElem_toArray]
      try simp only [List.getElem_cons_succ]
      try simp only [List.getElem_cons_zero]
      try simp only [Act.put]
      try simp only [List.setIfInBounds_toArray]
      try simp only [List.set]
      refine wpAnyH_done (by kernel_rfl) ?_ _
      have hF := GF.out _ (TG.out _ hHeld)
      clear hHeld
      have E0 := FE0.out _ hF
      have E1 := FE1.out _ hF
      have E2 := FE2.out _ hF
      have C1 := FC1.out _ hF
      have hcs := implSameRecords_any ra la m m rc lc (lgR B) R Dr' D w11 (by omega) (by omega) (FRr.out _ hF) (FL.out _ hF) (fun i _ => ⟨by have := lgR_small B i; omega, fun j _ => lgR_bd HBb.out i j⟩) HSm.out
      rw [HSr.out] at hcs
      have g := FG.out _ hF
      clear hF
      go_wp2_with (go_at_call 24; refine hcs.mono ?_; rintro e w9 ⟨rfl, g9⟩; have E2 := cellUp g9 E2; clear hcs)
      go_ret
      exact ⟨rfl, g.trans (g9.mono g.size)⟩
    · have dq2 : (q2 == 0) = false := by simpa using hq2
      clear HAp
      have E0 := FE0.out _ hF
      have E1 := FE1.out _ hF
      have E2 := FE2.out _ hF
      have C1 := FC1.out _ hF
      have hcs := implSameRecords_any ra la m m rc lc (lgR B) R Dr' D W6 (by omega) (by omega) (FRr.out _ hF) (FL.out _ hF) (fun i _ => ⟨by have := lgR_small B i; omega, fun j _ => lgR_bd HBb.out i j⟩) HSm.out
      rw [HSr.out] at hcs
      have g := FG.out _ hF
      clear hF
      go_wp2_with (go_at_call 24; refine hcs.mono ?_; rintro e w9 ⟨rfl, g9⟩; have E2 := cellUp g9 E2; clear hcs)
      go_ret
      exact ⟨rfl, g.trans (g9.mono g.size)⟩
  · have dq : (q != 0) = true := by simpa using hq
    clear HBk
    go_upto_region 6 with (fail)
    clear C1 hPr
    refine wp_region_held_drew (S := fun V => RecsRead V la m R D ∧ V.cell? ⟨bp, 0, none⟩ = some (.int .i64 q) ∧ Below w.heap.size w V) (by kernel_rfl) ⟨hL.below (Below.refl _ Y).drew (Nat.le_refl _), cellUp (Below.refl _ Y).drew C0, g1.drew⟩ (fun hHeld => ?_)
    generalize Y.drew = W at hHeld ⊢
    clear hL C0 g1
    refine wpAnyH_take (i := 0) (v := ?v1) rfl (by kernel_rfl) (by kernel_rfl) (by kernel_rfl) (fun _ _ _ h => h) (Or.inl ⟨by kernel_rfl, ?h1⟩) hHeld ?_
    case h1 => intro u hSw; (try dsimp only at hSw); go_simp; try with_reducible rfl
    try simp only [List.getElem_toArray]
    try simp only [List.getElem_cons_succ]
    try simp only [List.getElem_cons_zero]
    try simp only [Act.put]
    try simp only [List.setIfInBounds_toArray]
    try simp only [List.set]
    refine wpAnyH_take (i := 3) (v := ?v2) rfl (by kernel_rfl) (by kernel_rfl) (by kernel_rfl) (fun _ _ _ h => h) (Or.inl ⟨by kernel_rfl, ?h2⟩) hHeld ?_
    case h2 => intro u hSw; (try dsimp only at hSw); go_simp; try with_reducible rfl
    try simp only [List.getElem_toArray]
    try simp only [List.getElem_cons_succ]
    try simp only [List.getElem_cons_zero]
    try simp only [Act.put]
    try simp only [List.setIfInBounds_toArray]
    try simp only [List.set]
    refine wpAnyH_take (i := 4) (v := ?v3) rfl (by kernel_rfl) (by kernel_rfl) (by kernel_rfl) (fun _ _ _ h => h) (Or.inl ⟨by kernel_rfl, ?h3⟩) hHeld ?_
    case h3 => intro u hSw; have q0 := hSw.2.1; clear hSw; go_simp; try with_reducible rfl
    try simp only [List.getElem_toArray]
    try simp only [List.getElem_cons_succ]
    try simp only [List.getElem_cons_zero]
    try simp only [Act.put]
    try simp only [List.setIfInBounds_toArray]
    try simp only [List.set]
    refine wpAnyH_ready (rs := [1]) (by kernel_rfl) (by simp) ?_
    refine AllReadyH.cons rfl (fun K hK => ?_) AllReadyH.nil
    go_simp
    go_wp2_with (go_at_call 18; refine (HPa.out _ hHeld.1).mono ?_; rintro e w4 ⟨p4, c4, rfl, hb, _, _, _⟩)
    refine hK.out _ _ (⟨hHeld.1.below hb (Nat.le_refl _), cellUp hb hHeld.2.1, hHeld.2.2.trans (hb.mono hHeld.2.2.size)⟩) (fun hHeld => ?_)
    clear hK K
    clear hb
    try simp only [Act.put]
    try simp only [List.setIfInBounds_toArray]
    try simp only [List.set]
    refine wpAnyH_take (i := 2) (v := ?v4) rfl (by kernel_rfl) (by kernel_rfl) (by kernel_rfl) (fun _ _ _ h => h) (Or.inl ⟨by kernel_rfl, ?h4⟩) hHeld ?_
    case h4 => intro u hSw; (try dsimp only at hSw); go_simp; try with_reducible rfl
    try simp only [List.getElem_toArray]
    try simp only [List.getElem_cons_succ]
    try simp only [List.getElem_cons_zero]
    try simp only [Act.put]
    try simp only [List.setIfInBounds_toArray]
    try simp only [List.set]
    refine wpAnyH_take (i := 5) (v := ?v5) rfl (by kernel_rfl) (by kernel_rfl) (by kernel_rfl) (fun _ _ _ h => h) (Or.inl ⟨by kernel_rfl, ?h5⟩) hHeld ?_
    case h5 => intro u hSw; (try dsimp only at hSw); go_simp; try with_reducible rfl
    try simp only [List.getElem_toArray]
    try simp only [List.getElem_cons_succ]
    try simp only [List.getElem_cons_zero]
    try simp only [Act.put]
    try simp only [List.setIfInBounds_toArray]
    try simp only [List.set]
    refine wpAnyH_take (i := 6) (v := ?v6) rfl (by kernel_rfl) (by kernel_rfl) (by kernel_rfl) (fun _ _ _ h => h) (Or.inl ⟨by kernel_rfl, ?h6⟩) hHeld ?_
    case h6 => intro u hSw; (try dsimp only at hSw); go_simp; try with_reducible rfl
    try simp only [List.getElem_toArray]
    try simp only [List.getElem_cons_succ]
    try simp only [List.getElem_cons_zero]
    try simp only [Act.put]
    try simp only [List.setIfInBounds_toArray]
    try simp only [List.set]
    refine wpAnyH_done (by kernel_rfl) ?_ _
    have g := hHeld.2.2
    clear hHeld
    go_wp2_with fail
    go_ret
    exact ⟨rfl, g⟩

theorem lawLogs_over (a : Option Addr) (n c : Nat) (w : World) (h : 1048576 < n) :
    Calls Try.prog 3 #[.slice a n c] w fun e w' => e = .returned (.bool true) ∧ Below w.heap.size w w' := by
  go_enter Try.func3, Try.ntmps3
  go_wp2_with fail
  refine (lwBig_big a n c _ h).mono ?_
  rintro e w0 ⟨rfl, h0⟩
  rw [h0]
  clear h0 w0
  go_wp2_with fail
  go_ret
  exact ⟨rfl, Below.refl _ _⟩

theorem lawLogs_any (a : Option Addr) (n c : Nat) (zs : List Int) (w : World) (h : IsRow .u8 w a n c zs) :
    Calls Try.prog 3 #[.slice a n c] w fun e w' => e = .returned (.bool true) ∧ Below w.heap.size w w' := by
  obtain ⟨hn, _, hr, hz⟩ := Dr.isRow_reads h
  by_cases hs : 1048576 < n
  · exact lawLogs_over a n c w hs
  · exact lawLogs_fits a n c (zs.take n) w hr hn (by omega) hz

end Go.Proofs.Ytcjkjenebnodbaa
