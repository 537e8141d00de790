/-
  The law FnExactCommittedOf answers true.
-/
import Derived.Test.YtmboclfgldgefaaGreatCMCms

namespace Go.Proofs.YtmboclfgldgefaaGreat
open Go.ChangeShapes Go.WideShapes Go.RowKit Go.Maps
set_option linter.unusedVariables false
set_option maxRecDepth 20000

/-- What stays to the law's end: what came in, what the model answered. -/
structure Kee (Y wc : World) (b4 : Nat) (V : World) : Prop where
  g : Below Y.heap.size Y V
  W : Below b4 wc V
  hw : b4 ≤ V.heap.size
  hy : Y.heap.size ≤ b4
theorem Kee.step {Y wc V V' : World} {b4 : Nat} (h : Kee Y wc b4 V) (hb : Below V.heap.size V V') : Kee Y wc b4 V' := ⟨h.g.trans (hb.mono h.g.size), h.W.trans (hb.mono h.hw), Nat.le_trans h.hw hb.size, h.hy⟩
theorem Kee.turned {Y wc V V' : World} {b4 lo hi : Nat} (h : Kee Y wc b4 V) (t : Turned lo hi V V') (hl : b4 ≤ lo) : Kee Y wc b4 V' := ⟨h.g.trans (t.toBelow h.g.size (Nat.le_trans h.hy hl)), h.W.trans (t.toBelow h.hw hl), Nat.le_trans h.hw t.size, h.hy⟩
/-- The program's answer, till it is marked. -/
structure G0r (b7 B5 T6 : Nat) (Q : Int) (a5 : Option Addr) (ln c5 : Nat) (L : List Rw) (V : World) : Prop where
  c : E2 V b7 Q (.slice a5 ln c5)
  o : SlIn rwE 4 B5 T6 V a5 L
theorem G0r.step {b7 B5 T6 : Nat} {Q : Int} {a5 : Option Addr} {ln c5 : Nat} {L : List Rw} {V V' : World} (h : G0r b7 B5 T6 Q a5 ln c5 L V) (hb : Below V.heap.size V V') : G0r b7 B5 T6 Q a5 ln c5 L V' := ⟨h.c.below hb h.c.lt, h.o.turned (Turned.ofBelow (lo := 0) (hi := 0) hb) (.inr (Nat.zero_le _))⟩
theorem G0r.turned {b7 B5 T6 lo hi : Nat} {Q : Int} {a5 : Option Addr} {ln c5 : Nat} {L : List Rw} {V V' : World} (h : G0r b7 B5 T6 Q a5 ln c5 L V) (t : Turned lo hi V V') (h1 : hi ≤ B5) (h2 : hi ≤ b7) : G0r b7 B5 T6 Q a5 ln c5 L V' := ⟨⟨t.cell h.c.c0 (.inr h2), t.cell h.c.c1 (.inr h2)⟩, h.o.turned t (.inr h1)⟩

set_option maxHeartbeats 16000000 in
theorem lawCommittedOf_any (ra : Option Addr) (rs : List Rw) (rn rc : Nat) (a : Option Addr) (xs : List TxV) (n c : Nat) (nx : Int) (w : World) (hR : IsRows w ra rn rs) (h : IsTxs w a n xs) :
    Calls Tryz.prog 4 #[.agg #[.slice ra rn rc, .slice a n c, .int .i64 nx]] w fun e w' => e = .returned (.bool true) ∧ Below w.heap.size w w' := by
  have HN : Hid (xs.length = n) := h.eq
  have HRn : Hid (rs.length = rn) := hR.eq
  have HX : Hid (∀ V, Below w.heap.size w V → TxRd V a xs) := fun V hV => h.rd.below hV (Nat.le_refl _)
  have HRr : Hid (∀ V, Below w.heap.size w V → Rs rwE 4 V ra rs) := fun V hV => hR.rd.below hV (Nat.le_refl _)
  have HSz : Hid (∀ V, Below w.heap.size w V → Calls Tryz.prog 5 #[.agg #[.slice ra rn rc, .slice a n c, .int .i64 nx], .int .i64 1048576] V fun e w' => (∃ r : Int, e = .returned (.int .i64 r) ∧ (0 ≤ r → rn ≤ 1048576 ∧ (∀ r ∈ rs, r.s.size ≤ 1048576) ∧ n + nS xs ≤ 1048576 ∧ ∀ x ∈ xs, TxOk 1048576 x)) ∧ Below V.heap.size V w') := fun V hV => szPlain_any ra rs rn rc a xs n c nx 1048576 V ⟨h.rd.below hV (Nat.le_refl _), h.eq, h.ln, h.ok⟩ hR.eq hR.ln hR.sz (hR.rd.below hV (Nat.le_refl _)) (by omega) (by omega)
  clear h hR
  go_enter Tryz.func4, Tryz.ntmps4
  go_upto_region 1 with (fail)
  generalize hY : World.alloc _ _ = Y
  have gY : Below w.heap.size w Y := by rw [← hY]; go_grown
  have hk : P3 Y w.heap.size (.slice ra rn rc) (.slice a n c) (.int .i64 nx) := by rw [← hY]; exact ⟨by simp [go_sem], by simp [go_sem], by simp [go_sem]⟩
  clear hY
  obtain ⟨bx, hbx⟩ : ∃ bx, w.heap.size = bx := ⟨_, rfl⟩
  rw [hbx] at hk
  simp only [hbx]
  have HBX : Hid (w.heap.size = bx) := hbx
  clear hbx
  have lk := hk.lt
  have HK : Hid (∀ V, Below Y.heap.size Y V → P3 V bx (.slice ra rn rc) (.slice a n c) (.int .i64 nx)) := fun V hV => hk.below hV lk
  obtain ⟨q0, q1, q2⟩ := hk
  have hcon := HSz.out Y gY
  go_wp2_with fail
  refine hcon.mono ?_
  rintro e w2 ⟨⟨r, rfl, hl⟩, g⟩
  clear hcon q0 q1 q2 HSz
  by_cases h0 : r < 0
  · go_wp2_with fail
    go_ret
    exact ⟨rfl, gY.trans (g.mono gY.size)⟩
  obtain ⟨hrn, hrs, hnn, hs⟩ := hl (by omega)
  have hn : n ≤ 1048576 := by omega
  have HS : Hid (∀ x ∈ xs, TxOk 1048576 x) := hs
  have HRs : Hid (∀ r ∈ rs, r.s.size ≤ 1048576) := hrs
  have HCS : Hid (1 + 4 * rn + cS xs ≤ 40000000) := by have h1 := cS_nS xs; have h3 := HN.out; show _ ≤ _; omega
  have h0' : ¬ r < 0 := h0
  clear hl hs hrs h0 hnn
  have HTo : Hid (∀ V, Below Y.heap.size Y V → Calls Tryz.prog 7 #[.agg #[.slice ra rn rc, .slice a n c, .int .i64 nx]] V fun e w' => ToPost rs rn xs n nx V e w') := fun V hV => toPlain_any ra rs rn rc a xs n c nx V HRn.out hrn (HRr.out V (gY.trans (hV.mono gY.size))) HN.out hn HS.out (HX.out V (gY.trans (hV.mono gY.size)))
  obtain ⟨Q, hQ⟩ : ∃ Q, pnQ rs xs nx = Q := ⟨_, rfl⟩
  obtain ⟨L, hL⟩ : ∃ L, cmL rs xs nx = L := ⟨_, rfl⟩
  obtain ⟨ln, hln⟩ : ∃ ln, L.length = ln := ⟨_, rfl⟩
  have hln1 : ln ≤ 100 := by rw [← hln, ← hL]; exact cmL_len rs xs nx
  have HSpec : Hid (∀ (W : World) (xr xa : Nat), Rs rwE 4 W (some ⟨xr, 0, none⟩) rs → TxRc W (some ⟨xa, 0, none⟩) xs → Calls Tryz.prog 10 #[.agg #[.slice (some ⟨xr, 0, none⟩) rn rn, .slice (some ⟨xa, 0, none⟩) n n, .int .i64 nx]] W fun e w' => ∃ a' c', e = .returned (.agg #[.int .i64 Q, .slice a' ln c']) ∧ Below W.heap.size W w' ∧ Rs rwE 4 w' a' L) := fun W xr xa h1 h2 => by
    have h := specCommittedOf_any _ rs rn rn _ xs n n nx W HRn.out hrn HRs.out h1 HN.out hn HS.out h2.rd
    rw [hQ, hL, hln] at h
    exact h
  have HImpl : Hid (∀ (W : World) (xr xa : Nat), Rs rwE 4 W (some ⟨xr, 0, none⟩) rs → TxRc W (some ⟨xa, 0, none⟩) xs → Calls Tryz.prog 11 #[.agg #[.slice (some ⟨xr, 0, none⟩) rn rn, .slice (some ⟨xa, 0, none⟩) n n, .int .i64 nx]] W fun e w' => ∃ a' c', e = .returned (.agg #[.int .i64 Q, .slice a' ln c']) ∧ Below W.heap.size W w' ∧ SlIn rwE 4 W.heap.size w'.heap.size w' a' L) := fun W xr xa h1 h2 => by
    have h := implCommittedOf_any _ rs rn rn _ xs n n nx W HRn.out hrn HRs.out h1 HN.out hn HS.out h2
    rw [hQ, hL, hln] at h
    exact h
  have HEqP : Hid (∀ (W : World) (xr xa yr ya : Nat), Rs rwE 4 W (some ⟨xr, 0, none⟩) rs → TxRd W (some ⟨xa, 0, none⟩) xs → Rs rwE 4 W (some ⟨yr, 0, none⟩) rs → TxRd W (some ⟨ya, 0, none⟩) xs → Calls Tryz.prog 9 #[.agg #[.slice (some ⟨xr, 0, none⟩) rn rn, .slice (some ⟨xa, 0, none⟩) n n, .int .i64 nx], .agg #[.slice (some ⟨yr, 0, none⟩) rn rn, .slice (some ⟨ya, 0, none⟩) n n, .int .i64 nx]] W fun e w' => e = .returned (.bool true) ∧ Below W.heap.size W w') := fun W xr xa yr ya h1 h2 h3 h4 => eqPlain_same _ _ rs rn rn rn _ _ xs n n n nx W HRn.out (by omega) h1 h3 HN.out (by omega) HS.out h2 h4
  have HLN : Hid (L.length = ln) := hln
  have HEq : Hid (∀ (W : World) (a1 a2 : Option Addr) (c1 c2 : Nat), Rs rwE 4 W a1 L → Rs rwE 4 W a2 L → Calls Tryz.prog 12 #[.agg #[.int .i64 Q, .slice a1 ln c1], .agg #[.int .i64 Q, .slice a2 ln c2]] W fun e w' => e = .returned (.bool true) ∧ Below W.heap.size W w') := fun W a1 a2 c1 c2 h1 h2 => eqRowsResult_same Q a1 a2 L ln c1 c2 W HLN.out (by omega) h1 h2
  obtain ⟨k1, hk1⟩ : ∃ k1 : Int, ((1 + 4 * rn + cS xs : Nat) : Int) = k1 := ⟨_, rfl⟩
  obtain ⟨m1, hm1⟩ : ∃ m1 : Int, ((1 + 4 * ln : Nat) : Int) = m1 := ⟨_, rfl⟩
  have hk1n : ¬ k1 < 0 := by omega
  have hm1n : ¬ m1 < 0 := by omega
  have HK1 : Hid (((1 + 4 * rn + cS xs : Nat) : Int) = k1) := hk1
  have HMr : Hid (∀ (W : World) (a1 : Option Addr) (c1 lo hi : Nat), SlIn rwE 4 lo hi W a1 L → Calls Tryz.prog 14 #[.agg #[.int .i64 Q, .slice a1 ln c1], .int .i64 1] W fun e w' => e = .returned (.int .i64 m1) ∧ Turned lo hi W w' ∧ SlIn rwE 4 lo hi w' a1 ((List.range ln).map (mkR 1))) := fun W a1 c1 lo hi h1 => by
    have h := markRowsResult_any Q a1 lo hi L ln c1 1 W HLN.out (by omega) (Nat.le_refl _) (by omega) h1
    rw [hm1] at h
    exact h
  have HHe : Hid (∀ (W : World) (a1 : Option Addr) (c1 : Nat), Rs rwE 4 W a1 ((List.range ln).map (mkR 1)) → Calls Tryz.prog 15 #[.agg #[.int .i64 Q, .slice a1 ln c1], .int .i64 1] W fun e w' => e = .returned (.int .i64 m1) ∧ Below W.heap.size W w') := fun W a1 c1 h1 => by
    have h := heldRowsResult_any Q a1 ln c1 1 W (by omega) (Nat.le_refl _) (by omega) h1
    rw [hm1] at h
    exact h
  clear hQ hL hln hk1 hm1 HX HRr
  obtain ⟨q0, q1, q2⟩ := HK.out w2 g
  have hcon := HTo.out w2 g
  go_wp2_with fail
  refine hcon.mono ?_
  rintro e w3 ⟨yr, ya, ym, rfl, g3, t1, t2, _, _⟩
  have g := g.trans (g3.mono g.size)
  have hcon := HSpec.out w3 yr ya t1.reads t2.rd
  clear g3 t1 t2 q0 q1 q2
  go_wp2_with fail
  refine hcon.mono ?_
  rintro e w4 ⟨a3, c3, rfl, g4, R3⟩
  have g := g.trans (g4.mono g.size)
  clear g4 hcon HSpec
  go_upto_region 6 with (fail)
  generalize hZ : World.alloc _ _ = wc
  have gZ : Below w4.heap.size w4 wc := by rw [← hZ]; go_grown
  have C3 : E2 wc w4.heap.size Q (.slice a3 ln c3) := by rw [← hZ]; exact ⟨by simp [go_sem], by simp [go_sem]⟩
  have R3 := R3.below gZ (Nat.le_refl _)
  have g := g.trans (gZ.mono g.size)
  clear hZ gZ
  generalize w4.heap.size = b3 at C3 ⊢
  have HC3 : Hid (∀ V, Below wc.heap.size wc V → E2 V b3 Q (.slice a3 ln c3) ∧ Rs rwE 4 V a3 L) := fun V hV => ⟨C3.below hV C3.lt, R3.below hV (Nat.le_refl _)⟩
  have hyb : Y.heap.size ≤ wc.heap.size := g.size
  clear C3 R3
  obtain ⟨q0, q1, q2⟩ := HK.out wc g
  have hcon := HTo.out wc g
  go_wp2_with fail
  refine hcon.mono ?_
  rintro e w5 ⟨xr, xa, xm, rfl, g5, t1, t2, t3, t4⟩
  have K : Kee Y wc wc.heap.size w5 := ⟨g.trans (g5.mono g.size), g5, g5.size, hyb⟩
  have hle5 : wc.heap.size ≤ w5.heap.size := g5.size
  have HMk : Hid (∀ V, Below w5.heap.size w5 V → Calls Tryz.prog 13 #[.agg #[.slice (some ⟨xr, 0, none⟩) rn rn, .slice (some ⟨xa, 0, none⟩) n n, .int .i64 nx], .int .i64 1] V fun e w' => e = .returned (.int .i64 k1) ∧ Turned wc.heap.size w5.heap.size V w') := fun V hV => by
    have h := markPlain_any xr xa wc.heap.size xm w5.heap.size rs rn xs n nx 1 V HRn.out hrn HN.out hn HS.out (Nat.le_refl _) HCS.out t3 t4 (Nat.le_trans t4 hV.size) (t1.turned (Turned.ofBelow (lo := 0) (hi := 0) hV) (.inr (Nat.zero_le _))) (t2.below hV)
    rw [HK1.out] at h
    exact h
  have HXr : Hid (∀ V, Below w5.heap.size w5 V → Rs rwE 4 V (some ⟨xr, 0, none⟩) rs ∧ TxRd V (some ⟨xa, 0, none⟩) xs) := fun V hV => ⟨t1.reads.below hV (Nat.le_refl _), t2.rd.rd.below hV (Nat.le_refl _)⟩
  have HXc : Hid (∀ V, Below w5.heap.size w5 V → TxRc V (some ⟨xa, 0, none⟩) xs) := fun V hV => t2.rd.below hV (Nat.le_refl _)
  clear g5 hcon q0 q1 q2 g t1 t2 t3 t4
  generalize wc.heap.size = b4 at HC3 HMk K hle5 hyb
  go_upto_region 7 with (fail)
  generalize hZ : World.alloc _ _ = Z
  have gZ : Below w5.heap.size w5 Z := by rw [← hZ]; go_grown
  have CX : P3 Z w5.heap.size (.slice (some ⟨xr, 0, none⟩) rn rn) (.slice (some ⟨xa, 0, none⟩) n n) (.int .i64 nx) := by rw [← hZ]; exact ⟨by simp [go_sem], by simp [go_sem], by simp [go_sem]⟩
  have K := K.step gZ
  have q6 := gZ
  clear hZ gZ
  obtain ⟨xb, hxb⟩ : ∃ xb, w5.heap.size = xb := ⟨_, rfl⟩
  rw [hxb] at CX
  have HXB : Hid (w5.heap.size = xb) := hxb
  rw [show w5.heap.size = xb from hxb]
  have hcon := HImpl.out Z xr xa (HXr.out _ q6).1 (HXc.out _ q6)
  have lX := CX.lt
  have hB5 : w5.heap.size ≤ Z.heap.size := q6.size
  clear hxb
  obtain ⟨q0, q1, q2⟩ := CX
  go_wp2_with fail
  refine hcon.mono ?_
  rintro e w6 ⟨a5, c5, rfl, g6, o5⟩
  have CX : P3 w6 xb (.slice (some ⟨xr, 0, none⟩) rn rn) (.slice (some ⟨xa, 0, none⟩) n n) (.int .i64 nx) := P3.below ⟨q0, q1, q2⟩ g6 lX
  have K := K.step g6
  have q6 := q6.trans (g6.mono q6.size)
  have h56 : Z.heap.size ≤ w6.heap.size := g6.size
  clear g6 hcon q0 q1 q2 lX
  go_upto_region 8 with (fail)
  generalize hY : World.alloc _ _ = Y7
  have g7 : Below w6.heap.size w6 Y7 := by rw [← hY]; go_grown
  have C7 : E2 Y7 w6.heap.size Q (.slice a5 ln c5) := by rw [← hY]; exact ⟨by simp [go_sem], by simp [go_sem]⟩
  have G : G0r w6.heap.size Z.heap.size w6.heap.size Q a5 ln c5 L Y7 := ⟨C7, o5.turned (Turned.ofBelow (lo := 0) (hi := 0) g7) (.inr (Nat.zero_le _))⟩
  have CX := CX.below g7 CX.lt
  have K := K.step g7
  have q6 := q6.trans (g7.mono q6.size)
  clear g7 hY C7 o5
  generalize w6.heap.size = b7 at G h56 ⊢
  generalize Z.heap.size = B5 at G h56 hB5
  obtain ⟨y0, y1⟩ := G.c
  obtain ⟨⟨p0, p1⟩, R3⟩ := HC3.out _ K.W
  have hcon := HEq.out _ _ _ c5 c3 G.o.reads R3
  go_wp2_with fail
  refine hcon.mono ?_
  rintro e w8 ⟨rfl, g8⟩
  have K := K.step g8
  have G := G.step g8
  have CX := CX.below g8 CX.lt
  have q6 := q6.trans (g8.mono q6.size)
  clear hcon g8 y0 y1 p0 p1 R3
  have gk := K.g
  go_upto_region 10 with (fail)
  go_cut [31] from 27 (fun s wx => s = .bool false ∧ Below w8.heap.size w8 wx)
  case first =>
    clear HImpl HEq HMr HHe HMk HC3 G HXc
    refine wp_region_held_drew (S := fun V => (P3 V bx (.slice ra rn rc) (.slice a n c) (.int .i64 nx) ∧ P3 V xb (.slice (some ⟨xr, 0, none⟩) rn rn) (.slice (some ⟨xa, 0, none⟩) n n) (.int .i64 nx)) ∧ Below w8.heap.size w8 V) (by kernel_rfl) ⟨⟨HK.out _ (gk.trans ((Below.refl _ w8).drew.mono gk.size)), CX.below (Below.refl _ w8).drew CX.lt⟩, (Below.refl _ w8).drew⟩ (fun hHeld => ?_)
    generalize World.drew _ = D0 at hHeld ⊢
    refine wpAnyH_take (i := 0) (v := ?v1) rfl (by kernel_rfl) (by kernel_rfl) (by kernel_rfl) (fun _ _ _ h => h) (Or.inl ⟨by kernel_rfl, ?h1⟩) hHeld ?_
    case h1 => intro u hSw; (obtain ⟨q0, q1, q2⟩ := hSw.1.2); clear hSw; go_simp; try with_reducible rfl
    try simp only [List.getElem_toArray]
    try simp only [List.getElem_cons_succ]
    try simp only [List.getElem_cons_zero]
    try simp only [Act.put]
    try simp only [List.setIfInBounds_toArray]
    try simp only [List.set]
    refine wpAnyH_take (i := 1) (v := ?v2) rfl (by kernel_rfl) (by kernel_rfl) (by kernel_rfl) (fun _ _ _ h => h) (Or.inl ⟨by kernel_rfl, ?h2⟩) hHeld ?_
    case h2 => intro u hSw; (obtain ⟨q0, q1, q2⟩ := hSw.1.1); clear hSw; go_simp; try with_reducible rfl
    try simp only [List.getElem_toArray]
    try simp only [List.getElem_cons_succ]
    try simp only [List.getElem_cons_zero]
    try simp only [Act.put]
    try simp only [List.setIfInBounds_toArray]
    try simp only [List.set]
    refine wpAnyH_ready (rs := [2]) (by kernel_rfl) (by simp) ?_
    refine AllReadyH.cons rfl (fun K hK => ?_) AllReadyH.nil
    go_simp
    go_wp2_with (go_at_call 7; refine (HTo.out _ (gk.trans (hHeld.2.mono gk.size))).mono ?_; rintro e W1 ⟨yr, ya, ym, rfl, gg, t1, t2, t3, t4⟩)
    refine hK.out _ _ (⟨⟨hHeld.1.1.below gg hHeld.1.1.lt, hHeld.1.2.below gg hHeld.1.2.lt⟩, hHeld.2.trans (gg.mono hHeld.2.size)⟩) (fun hHeld => ?_)
    clear hK K
    try simp only [Act.put]
    try simp only [List.setIfInBounds_toArray]
    try simp only [List.set]
    have hcon := HEqP.out W1 xr xa yr ya (HXr.out _ (q6.trans (hHeld.2.mono q6.size))).1 (HXr.out _ (q6.trans (hHeld.2.mono q6.size))).2 t1.reads t2.rd.rd
    clear t1 t2 t3 t4 gg
    refine wpAnyH_ready (rs := [3]) (by kernel_rfl) (by simp) ?_
    refine AllReadyH.cons rfl (fun K hK => ?_) AllReadyH.nil
    go_simp
    go_wp2_with (go_at_call 9; refine hcon.mono ?_; rintro e W2 ⟨rfl, gg⟩)
    refine hK.out _ _ (⟨⟨hHeld.1.1.below gg hHeld.1.1.lt, hHeld.1.2.below gg hHeld.1.2.lt⟩, hHeld.2.trans (gg.mono hHeld.2.size)⟩) (fun hHeld => ?_)
    clear hK K
    try simp only [Act.put]
    try simp only [List.setIfInBounds_toArray]
    try simp only [List.set]
    clear hcon gg
    refine wpAnyH_take (i := 4) (v := ?v3) rfl (by kernel_rfl) (by kernel_rfl) (by kernel_rfl) (fun _ _ _ h => h) (Or.inl ⟨by kernel_rfl, ?h3⟩) hHeld ?_
    case h3 => intro u hSw; clear hSw; go_simp; try with_reducible rfl
    try simp only [List.getElem_toArray]
    try simp only [List.getElem_cons_succ]
    try simp only [List.getElem_cons_zero]
    try simp only [Act.put]
    try simp only [List.setIfInBounds_toArray]
    try simp only [List.set]
    refine wpAnyH_done (by kernel_rfl) ?_ _
    go_wp2_with fail
    go_meet
    case rel => exact ⟨rfl, hHeld.2⟩
  case rest =>
    obtain ⟨rfl, g9⟩ := hcut
    clear gk
    have K := K.step g9
    have G := G.step g9
    have CX := CX.below g9 CX.lt
    have q6 := q6.trans (g9.mono q6.size)
    clear g9 HEqP HXr
    have hcon := HMk.out _ q6
    obtain ⟨q0, q1, q2⟩ := CX
    go_wp2_with fail
    refine hcon.mono ?_
    rintro e w11 ⟨rfl, t11⟩
    have K := K.turned t11 (Nat.le_refl _)
    have G := G.turned t11 hB5 (Nat.le_trans hB5 h56)
    clear hcon t11 q6 HMk q0 q1 q2
    obtain ⟨y0, y1⟩ := G.c
    obtain ⟨⟨p0, p1⟩, R3⟩ := HC3.out _ K.W
    have hcon := HEq.out _ _ _ c5 c3 G.o.reads R3
    go_wp2_with fail
    refine hcon.mono ?_
    rintro e w12 ⟨rfl, g12⟩
    have K := K.step g12
    have G := G.step g12
    clear hcon g12 y0 y1 p0 p1 R3
    obtain ⟨y0, y1⟩ := G.c
    have hcon := HMr.out w12 a5 c5 B5 b7 G.o
    go_wp2_with fail
    refine hcon.mono ?_
    rintro e w13 ⟨rfl, t13, o13⟩
    have K := K.turned t13 (Nat.le_trans hle5 hB5)
    have C13 : E2 w13 b7 Q (.slice a5 ln c5) := ⟨t13.cell G.c.c0 (.inr (Nat.le_refl _)), t13.cell G.c.c1 (.inr (Nat.le_refl _))⟩
    have HM0 : Hid (∀ V, Below w13.heap.size w13 V → E2 V b7 Q (.slice a5 ln c5) ∧ Rs rwE 4 V a5 ((List.range ln).map (mkR 1))) := fun V hV => ⟨C13.below hV C13.lt, o13.reads.below hV (Nat.le_refl _)⟩
    have q13 : Below w13.heap.size w13 w13 := Below.refl _ _
    clear hcon t13 o13 C13 G y0 y1 HMr
    obtain ⟨⟨y0, y1⟩, R5⟩ := HM0.out _ q13
    have hcon := HHe.out _ _ c5 R5
    go_wp2_with fail
    refine hcon.mono ?_
    rintro e w14 ⟨rfl, g14⟩
    have K := K.step g14
    have q13 := q13.trans (g14.mono q13.size)
    clear hcon g14 y0 y1 R5
    obtain ⟨q0, q1, q2⟩ := HK.out _ K.g
    have hcon := HTo.out _ K.g
    go_wp2_with fail
    refine hcon.mono ?_
    rintro e w15 ⟨zr, za, zm, rfl, g15, t1, t2, _, _⟩
    have hcon := HImpl.out w15 zr za t1.reads t2.rd
    have K := K.step g15
    have q13 := q13.trans (g15.mono q13.size)
    clear g15 t1 t2 q0 q1 q2
    go_wp2_with fail
    refine hcon.mono ?_
    rintro e w16 ⟨a9, c9, rfl, g16, o9⟩
    have K := K.step g16
    have q13 := q13.trans (g16.mono q13.size)
    clear hcon g16
    go_upto_region 25 with (fail)
    generalize hY : World.alloc _ _ = Y9
    have g17 : Below w16.heap.size w16 Y9 := by rw [← hY]; go_grown
    have C9 : E2 Y9 w16.heap.size Q (.slice a9 ln c9) := by rw [← hY]; exact ⟨by simp [go_sem], by simp [go_sem]⟩
    have R9 := o9.reads.below g17 (Nat.le_refl _)
    have K := K.step g17
    have q13 := q13.trans (g17.mono q13.size)
    clear g17 hY o9
    generalize w16.heap.size = b9 at C9 ⊢
    obtain ⟨y0, y1⟩ := C9
    obtain ⟨⟨p0, p1⟩, R3⟩ := HC3.out _ K.W
    have hcon := HEq.out _ _ _ c9 c3 R9 R3
    go_wp2_with fail
    refine hcon.mono ?_
    rintro e w18 ⟨rfl, g18⟩
    have K := K.step g18
    have q13 := q13.trans (g18.mono q13.size)
    clear hcon g18 y0 y1 p0 p1 R3 R9
    obtain ⟨⟨y0, y1⟩, R5⟩ := HM0.out _ q13
    have hcon := HHe.out _ _ c5 R5
    go_wp2_with fail
    refine hcon.mono ?_
    rintro e w19 ⟨rfl, g19⟩
    have K := K.step g19
    clear hcon g19 y0 y1 R5
    go_wp2_with fail
    go_ret
    exact ⟨rfl, gY.trans (K.g.mono gY.size)⟩

end Go.Proofs.YtmboclfgldgefaaGreat
