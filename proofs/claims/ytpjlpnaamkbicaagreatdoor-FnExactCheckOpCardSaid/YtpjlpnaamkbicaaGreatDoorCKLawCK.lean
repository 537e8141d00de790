/-
  The law FnExactCheckOp answers true.
-/
import Derived.Test.YtpjlpnaamkbicaaGreatDoorCKCki
import Derived.Test.YtpjlpnaamkbicaaGreatDoorCKLawTX
import Derived.Test.YtpjlpnaamkbicaaGreatDoorCKRdw
import Derived.Test.YtpjlpnaamkbicaaGreatDoorCKChw

namespace Go.Proofs.YtpjlpnaamkbicaaGreatDoor
open Go.ChangeShapes Go.WideShapes Go.RowKit Go.Maps
set_option linter.unusedVariables false
set_option maxRecDepth 20000

/-- The twelve cells of an answer. -/
structure A12 (w : World) (b : Nat) (q : Int) (tn cw : Bool) (bt bk bv : Int) (bs : ByteArray) (ci : Bool) (yt yk yv : Int) (ys : ByteArray) : Prop where
  c0 : w.cell? ⟨b, 0, none⟩ = some (.int .i64 q)
  c1 : w.cell? ⟨b, 1, none⟩ = some (.bool tn)
  c2 : w.cell? ⟨b, 2, none⟩ = some (.bool cw)
  c3 : w.cell? ⟨b, 3, none⟩ = some (.int .i64 bt)
  c4 : w.cell? ⟨b, 4, none⟩ = some (.int .i64 bk)
  c5 : w.cell? ⟨b, 5, none⟩ = some (.int .i64 bv)
  c6 : w.cell? ⟨b, 6, none⟩ = some (.string bs)
  c7 : w.cell? ⟨b, 7, none⟩ = some (.bool ci)
  c8 : w.cell? ⟨b, 8, none⟩ = some (.int .i64 yt)
  c9 : w.cell? ⟨b, 9, none⟩ = some (.int .i64 yk)
  c10 : w.cell? ⟨b, 10, none⟩ = some (.int .i64 yv)
  c11 : w.cell? ⟨b, 11, none⟩ = some (.string ys)
theorem A12.lt {w : World} {b : Nat} {q : Int} {tn cw : Bool} {bt bk bv : Int} {bs : ByteArray} {ci : Bool} {yt yk yv : Int} {ys : ByteArray} (h : A12 w b q tn cw bt bk bv bs ci yt yk yv ys) : b < w.heap.size := World.block_lt_of_cell? w _ h.c0
theorem A12.below {w w' : World} {b : Nat} {q : Int} {tn cw : Bool} {bt bk bv : Int} {bs : ByteArray} {ci : Bool} {yt yk yv : Int} {ys : ByteArray} (h : A12 w b q tn cw bt bk bv bs ci yt yk yv ys) (hb : Below w.heap.size w w') : A12 w' b q tn cw bt bk bv bs ci yt yk yv ys :=
  ⟨(hb.cell (p := ⟨b, 0, none⟩) h.lt).trans h.c0, (hb.cell (p := ⟨b, 1, none⟩) h.lt).trans h.c1, (hb.cell (p := ⟨b, 2, none⟩) h.lt).trans h.c2, (hb.cell (p := ⟨b, 3, none⟩) h.lt).trans h.c3, (hb.cell (p := ⟨b, 4, none⟩) h.lt).trans h.c4, (hb.cell (p := ⟨b, 5, none⟩) h.lt).trans h.c5, (hb.cell (p := ⟨b, 6, none⟩) h.lt).trans h.c6, (hb.cell (p := ⟨b, 7, none⟩) h.lt).trans h.c7, (hb.cell (p := ⟨b, 8, none⟩) h.lt).trans h.c8, (hb.cell (p := ⟨b, 9, none⟩) h.lt).trans h.c9, (hb.cell (p := ⟨b, 10, none⟩) h.lt).trans h.c10, (hb.cell (p := ⟨b, 11, none⟩) h.lt).trans h.c11⟩
theorem ckV_form (rs : List Rw) (xs : List TxV) (kd tx t k v : Int) (s : ByteArray) (mk : Int) : ∃ q tn c, ckV rs xs kd tx t k v s mk = crVal q tn c := by
  unfold ckV
  repeat' split
  all_goals first | exact ⟨_, _, _, rfl⟩ | exact ckC_form rs xs kd tx t k v s mk
set_option maxHeartbeats 4000000 in
theorem eqChangeResult_same (q : Int) (tn cw : Bool) (bt bk bv : Int) (bs : ByteArray) (ci : Bool) (yt yk yv : Int) (ys : ByteArray) (w : World) :
    Calls Tryz.prog 12 #[.agg #[.int .i64 q, .bool tn, .bool cw, .int .i64 bt, .int .i64 bk, .int .i64 bv, .string bs, .bool ci, .int .i64 yt, .int .i64 yk, .int .i64 yv, .string ys], .agg #[.int .i64 q, .bool tn, .bool cw, .int .i64 bt, .int .i64 bk, .int .i64 bv, .string bs, .bool ci, .int .i64 yt, .int .i64 yk, .int .i64 yv, .string ys]] w fun e w' => e = .returned (.bool true) ∧ Below w.heap.size w w' := by
  have hcon := fun W => eqChange_same cw bt bk bv bs ci yt yk yv ys W
  go_enter Tryz.func12, Tryz.ntmps12
  go_wp2_with fail
  refine (hcon _).mono ?_
  rintro e w1 ⟨rfl, g1⟩
  clear hcon
  have g : Below w.heap.size w w1 := Below.trans (by go_grown) (g1.mono (by simp; omega))
  clear g1
  go_wp2_with fail
  go_ret
  exact ⟨rfl, g⟩

set_option maxHeartbeats 16000000 in
theorem lawCheckOp_any (ra : Option Addr) (rn rc : Nat) (rs : List Rw) (a : Option Addr) (n c : Nat) (xs : List TxV) (kd tx t k v : Int) (s : ByteArray) (mk : Int) (w : World) (hE : Errs w) (hrows : IsRows w ra rn rs) (h : IsTxs w a n xs) (hss : s.size ≤ maxLen) :
    Calls Tryz.prog 3 #[.slice ra rn rc, .slice a n c, .agg #[.int .i64 kd, .int .i64 tx, .int .i64 t, .int .i64 k, .int .i64 v, .string s, .int .i64 mk]] w fun e w' => e = .returned (.bool true) ∧ Below w.heap.size w w' := by
  have HR0 : Hid (∀ V, Below w.heap.size w V → TxRd V a xs) := fun V hV => h.rd.below hV (Nat.le_refl _)
  have HRr0 : Hid (∀ V, Below w.heap.size w V → Rs rwE 4 V ra rs) := fun V hV => hrows.rd.below hV (Nat.le_refl _)
  have HEr : Hid (∀ V, Below w.heap.size w V → Errs V) := fun V hV => hE.below hV
  have HN : Hid (xs.length = n) := h.eq
  have HRn : Hid (rs.length = rn) := hrows.eq
  have HI : Hid (∀ V, Below w.heap.size w V → IsTxs V a n xs) := fun V hV => ⟨h.rd.below hV (Nat.le_refl _), h.eq, h.ln, h.ok⟩
  have HSr : Hid (∀ V, Below w.heap.size w V → Calls Tryz.prog 4 #[.slice ra rn rc, .int .i64 1048576] V fun e w' => (∃ r : Int, e = .returned (.int .i64 r) ∧ r ≤ 1048576 ∧ (0 ≤ r → rn ≤ 1048576 ∧ ∀ x ∈ rs, x.s.size ≤ 1048576)) ∧ Below V.heap.size V w') := fun V hV => szRowS_any ra rs rn rc V 1048576 hrows.eq hrows.ln hrows.sz (hrows.rd.below hV (Nat.le_refl _)) (by omega) (by omega)
  have HSs : Hid (s.size ≤ maxLen) := hss
  clear h hrows hE hss
  go_enter Tryz.func3, Tryz.ntmps3
  go_upto_region 1 with (fail)
  generalize hY : World.alloc _ _ = Y
  have gY : Below w.heap.size w Y := by rw [← hY]; go_grown
  have hO : OpAt Y w.heap.size kd tx t k v s mk := by rw [← hY]; exact ⟨by simp [go_sem], by simp [go_sem], by simp [go_sem], by simp [go_sem], by simp [go_sem], by simp [go_sem], by simp [go_sem]⟩
  clear hY
  obtain ⟨ob, hob⟩ : ∃ ob, w.heap.size = ob := ⟨_, rfl⟩
  rw [hob] at hO
  simp only [hob]
  have HOB : Hid (w.heap.size = ob) := hob
  clear hob
  have lO := hO.lt
  have HOp0 : Hid (∀ V, Below Y.heap.size Y V → OpAt V ob kd tx t k v s mk) := fun V hV => hO.below hV lO
  clear hO
  have hcon := HSr.out Y gY
  clear HSr
  go_wp2_with fail
  refine hcon.mono ?_
  rintro e w1 ⟨⟨r1, rfl, hr1, hl1⟩, gy⟩
  clear hcon
  have g := gY.trans (gy.mono gY.size)
  by_cases h1 : r1 < 0
  · go_wp2_with fail
    go_ret
    exact ⟨rfl, g⟩
  obtain ⟨hrn, hrs⟩ := hl1 (by omega)
  have HRs : Hid (∀ x ∈ rs, x.s.size ≤ 1048576) := hrs
  have h1' : ¬ r1 < 0 := h1
  have hcon := szTxS_any a xs n c w1 r1 (HI.out w1 g) (by omega) hr1
  clear hl1 hrs h1 HI
  go_wp2_with fail
  refine hcon.mono ?_
  rintro e w2 ⟨⟨r, rfl, hr2, hl⟩, g2⟩
  clear hcon
  have g := g.trans (g2.mono g.size)
  have gy := gy.trans (g2.mono gy.size)
  clear g2
  by_cases h0 : r < 0
  · go_wp2_with fail
    go_ret
    exact ⟨rfl, g⟩
  obtain ⟨hn, hs⟩ := hl (by omega)
  have HS : Hid (∀ x ∈ xs, TxOk 1048576 x) := hs
  have h0' : ¬ r < 0 := h0
  have hcon := szOp_any kd tx t k v s mk r w2 HSs.out (by omega) hr2
  obtain ⟨c0, c1, c2, c3, c4, c5, c6⟩ := HOp0.out w2 gy
  clear hl hs h0 hr1 h1'
  go_wp2_with fail
  refine hcon.mono ?_
  rintro e w3 ⟨⟨r', rfl, hr3, hss⟩, g3⟩
  clear hcon c0 c1 c2 c3 c4 c5 c6
  have g := g.trans (g3.mono g.size)
  have gy := gy.trans (g3.mono gy.size)
  clear g3
  by_cases h3 : r' < 0
  · go_wp2_with fail
    go_ret
    exact ⟨rfl, g⟩
  have hss := hss (by omega)
  have h3' : ¬ r' < 0 := h3
  clear h3 hr2 hr3 h0' HSs
  have HTt : Hid (∀ V, Below w.heap.size w V → Calls Tryz.prog 9 #[.slice a n c] V fun e w' => e = .returned (.slice (some ⟨V.heap.size, 0, none⟩) n n) ∧ Below V.heap.size V w' ∧ TxRc w' (some ⟨V.heap.size, 0, none⟩) xs) := fun V hV => toTxS_any a xs n c V HN.out hn HS.out (HR0.out V hV)
  have HTr : Hid (∀ V, Below w.heap.size w V → Calls Tryz.prog 8 #[.slice ra rn rc] V fun e w' => e = .returned (.slice (some ⟨V.heap.size, 0, none⟩) rn rn) ∧ Below V.heap.size V w' ∧ Rs rwE 4 w' (some ⟨V.heap.size, 0, none⟩) rs) := fun V hV => (toRowS_any ra rs rn rc V HRn.out hrn (HRr0.out V hV)).mono fun e w' h => ⟨h.1, h.2.1, h.2.2.reads⟩
  have HTp : Hid (∀ V, Calls Tryz.prog 10 #[.agg #[.int .i64 kd, .int .i64 tx, .int .i64 t, .int .i64 k, .int .i64 v, .string s, .int .i64 mk]] V fun e w' => e = .returned (.agg #[.int .i64 kd, .int .i64 tx, .int .i64 t, .int .i64 k, .int .i64 v, .string s, .int .i64 mk]) ∧ Below V.heap.size V w') := fun V => toOp_any kd tx t k v s mk V
  have HSpec : Hid (∀ (b a : Option Addr) (W : World), Rs rwE 4 W b rs → TxRc W a xs → Calls Tryz.prog 7 #[.slice b rn rn, .slice a n n, .agg #[.int .i64 kd, .int .i64 tx, .int .i64 t, .int .i64 k, .int .i64 v, .string s, .int .i64 mk]] W fun e w' => e = .returned (ckV rs xs kd tx t k v s mk) ∧ Below W.heap.size W w') := fun b a W h0 h1 => specCheckOp_any b rs rn rn a xs n n kd tx t k v s mk W HRn.out hrn HRs.out h0 HN.out hn HS.out h1.rd hss
  have HImpl : Hid (∀ (b a : Option Addr) (W : World), Rs rwE 4 W b rs → TxRc W a xs → Errs W → Calls Tryz.prog 11 #[.slice b rn rn, .slice a n n, .agg #[.int .i64 kd, .int .i64 tx, .int .i64 t, .int .i64 k, .int .i64 v, .string s, .int .i64 mk]] W fun e w' => e = .returned (ckV rs xs kd tx t k v s mk) ∧ Below W.heap.size W w') := fun b a W h0 h1 h2 => implCheckOp_any b rs rn rn a xs n n kd tx t k v s mk W HRn.out hrn HRs.out h0 HN.out hn HS.out h1 hss h2
  obtain ⟨q, tn, cc, hfm⟩ := ckV_form rs xs kd tx t k v s mk
  rw [hfm] at HSpec HImpl
  clear hfm
  obtain ⟨cw, ⟨bt, bk, bv, bs⟩, ci, ⟨yt, yk, yv, ys⟩⟩ := cc
  dsimp only [crVal] at HSpec HImpl
  have HOp : Hid (∀ V, Below w3.heap.size w3 V → OpAt V ob kd tx t k v s mk) := fun V hV => HOp0.out V (gy.trans (hV.mono gy.size))
  clear HOp0 gy gY lO
  go_upto_region 11 with (fail)
  obtain ⟨Y, hY3⟩ : ∃ Y, Y = w3 := ⟨_, rfl⟩
  subst hY3
  go_cut [8] from 27 (fun s8 wc => ∃ ab : Nat, s8 = .pointer (some ⟨ab, 0, none⟩) ∧ Below Y.heap.size Y wc ∧ A12 wc ab q tn cw bt bk bv bs ci yt yk yv ys)
  case first =>
    clear HImpl HEr HR0 HRr0
    refine wp_region_held_drew (S := fun V => OpAt V ob kd tx t k v s mk ∧ Below Y.heap.size Y V) (by kernel_rfl) ⟨HOp.out _ (Below.refl _ Y).drew, (Below.refl _ Y).drew⟩ (fun hHeld => ?_)
    generalize World.drew _ = D0 at hHeld ⊢
    refine wpAnyH_take (i := 0) (v := ?v1) rfl (by kernel_rfl) (by kernel_rfl) (by kernel_rfl) (fun _ _ _ h => h) (Or.inl ⟨by kernel_rfl, ?h1⟩) hHeld ?_
    case h1 => intro u hSw; clear hSw; go_simp; try with_reducible rfl
    try simp only [List.getElem_toArray]
    try simp only [List.getElem_cons_succ]
    try simp only [List.getElem_cons_zero]
    try simp only [Act.put]
    try simp only [List.setIfInBounds_toArray]
    try simp only [List.set]
    refine wpAnyH_take (i := 2) (v := ?v2) rfl (by kernel_rfl) (by kernel_rfl) (by kernel_rfl) (fun _ _ _ h => h) (Or.inl ⟨by kernel_rfl, ?h2⟩) hHeld ?_
    case h2 => intro u hSw; clear hSw; go_simp; try with_reducible rfl
    try simp only [List.getElem_toArray]
    try simp only [List.getElem_cons_succ]
    try simp only [List.getElem_cons_zero]
    try simp only [Act.put]
    try simp only [List.setIfInBounds_toArray]
    try simp only [List.set]
    refine wpAnyH_take (i := 4) (v := ?v3) rfl (by kernel_rfl) (by kernel_rfl) (by kernel_rfl) (fun _ _ _ h => h) (Or.inl ⟨by kernel_rfl, ?h3⟩) hHeld ?_
    case h3 => intro u hSw; (obtain ⟨q0, q1, q2, q3, q4, q5, q6⟩ := hSw.1); clear hSw; go_simp; try with_reducible rfl
    try simp only [List.getElem_toArray]
    try simp only [List.getElem_cons_succ]
    try simp only [List.getElem_cons_zero]
    try simp only [Act.put]
    try simp only [List.setIfInBounds_toArray]
    try simp only [List.set]
    refine wpAnyH_ready (rs := [1, 7]) (by kernel_rfl) (by simp) ?_
    refine AllReadyH.cons rfl (fun K hK => ?_) (AllReadyH.cons rfl (fun K hK => ?_) AllReadyH.nil)
    · go_simp
      go_wp2_with (go_at_call 8; refine (HTr.out _ (g.trans (hHeld.2.mono g.size))).mono ?_; rintro e U1 ⟨rfl, gg, n0⟩)
      refine hK.out _ _ ⟨hHeld.1.below gg hHeld.1.lt, hHeld.2.trans (gg.mono hHeld.2.size)⟩ (fun hHeld => ?_)
      clear hK K
      clear gg
      generalize D0.heap.size = lb at n0 ⊢
      try simp only [Act.put]
      try simp only [List.setIfInBounds_toArray]
      try simp only [List.set]
      refine wpAnyH_ready (rs := [3, 7]) (by kernel_rfl) (by simp) ?_
      refine AllReadyH.cons rfl (fun K hK => ?_) (AllReadyH.cons rfl (fun K hK => ?_) AllReadyH.nil)
      · go_simp
        go_wp2_with (go_at_call 9; refine (HTt.out _ (g.trans (hHeld.2.mono g.size))).mono ?_; rintro e U2 ⟨rfl, gg, n1⟩)
        refine hK.out _ _ ⟨hHeld.1.below gg hHeld.1.lt, hHeld.2.trans (gg.mono hHeld.2.size)⟩ (fun hHeld => ?_)
        clear hK K
        have n0 := n0.below gg (Nat.le_refl _)
        clear gg
        generalize U1.heap.size = lb' at n1 ⊢
        try simp only [Act.put]
        try simp only [List.setIfInBounds_toArray]
        try simp only [List.set]
        refine wpAnyH_ready (rs := [5, 7]) (by kernel_rfl) (by simp) ?_
        refine AllReadyH.cons rfl (fun K hK => ?_) (AllReadyH.cons rfl (fun K hK => ?_) AllReadyH.nil)
        · go_simp
          go_wp2_with (go_at_call 10; refine (HTp.out _).mono ?_; rintro e U3 ⟨rfl, gg⟩)
          refine hK.out _ _ ⟨hHeld.1.below gg hHeld.1.lt, hHeld.2.trans (gg.mono hHeld.2.size)⟩ (fun hHeld => ?_)
          clear hK K
          have n0 := n0.below gg (Nat.le_refl _)
          have n1 := n1.below gg (Nat.le_refl _)
          clear gg
          try simp only [Act.put]
          try simp only [List.setIfInBounds_toArray]
          try simp only [List.set]
          refine wpAnyH_ready (rs := [6, 7]) (by kernel_rfl) (by simp) ?_
          refine AllReadyH.cons rfl (fun K hK => ?_) (AllReadyH.cons rfl (fun K hK => ?_) AllReadyH.nil)
          · go_simp
            go_wp2_with (go_at_call 7; refine (HSpec.out _ _ _ n0 n1).mono ?_; rintro e U4 ⟨rfl, gg⟩)
            refine hK.out _ _ ⟨hHeld.1.below gg hHeld.1.lt, hHeld.2.trans (gg.mono hHeld.2.size)⟩ (fun hHeld => ?_)
            clear hK K
            clear gg
            try simp only [Act.put]
            try simp only [List.setIfInBounds_toArray]
            try simp only [List.set]
            refine wpAnyH_ready (rs := [7]) (by kernel_rfl) (by simp) ?_
            refine AllReadyH.cons rfl (fun K hK => ?_) AllReadyH.nil
            have gg : Below U4.heap.size U4 (U4.alloc (.cells #[.int .i64 0, .bool false, .bool false, .int .i64 0, .int .i64 0, .int .i64 0, .string ⟨#[]⟩, .bool false, .int .i64 0, .int .i64 0, .int .i64 0, .string ⟨#[]⟩] 35)) := by go_grown
            have hab : Y.heap.size ≤ U4.heap.size := hHeld.2.size
            have hB : R12 (U4.alloc (.cells #[.int .i64 0, .bool false, .bool false, .int .i64 0, .int .i64 0, .int .i64 0, .string ⟨#[]⟩, .bool false, .int .i64 0, .int .i64 0, .int .i64 0, .string ⟨#[]⟩] 35)) U4.heap.size := ⟨by simp [go_sem], by simp [go_sem], by simp [go_sem], by simp [go_sem], by simp [go_sem], by simp [go_sem], by simp [go_sem], by simp [go_sem], by simp [go_sem], by simp [go_sem], by simp [go_sem], by simp [go_sem], by simp [go_sem], by simp [go_sem], by simp [go_sem], by simp [go_sem], by simp [go_sem], by simp [go_sem], by simp [go_sem], by simp [go_sem], by simp [go_sem], by simp [go_sem], by simp [go_sem], by simp [go_sem]⟩
            go_simp
            refine hK.out _ _ ⟨hHeld.1.below gg hHeld.1.lt, hHeld.2.trans (gg.mono hHeld.2.size)⟩ (fun hHeld => ?_)
            clear hK K
            clear gg
            generalize U4.alloc (.cells #[.int .i64 0, .bool false, .bool false, .int .i64 0, .int .i64 0, .int .i64 0, .string ⟨#[]⟩, .bool false, .int .i64 0, .int .i64 0, .int .i64 0, .string ⟨#[]⟩] 35) = U5 at hHeld hB ⊢
            generalize U4.heap.size = ab at hB hab ⊢
            try simp only [Act.put]
            try simp only [List.setIfInBounds_toArray]
            try simp only [List.set]
            have T : Turned ab (ab + 1) U5 ((((((((((((U5.setCell ⟨ab, 0, none⟩ (.int .i64 q)).setCell ⟨ab, 1, none⟩ (.bool tn)).setCell ⟨ab, 2, none⟩ (.bool cw)).setCell ⟨ab, 3, none⟩ (.int .i64 bt)).setCell ⟨ab, 4, none⟩ (.int .i64 bk)).setCell ⟨ab, 5, none⟩ (.int .i64 bv)).setCell ⟨ab, 6, none⟩ (.string bs)).setCell ⟨ab, 7, none⟩ (.bool ci)).setCell ⟨ab, 8, none⟩ (.int .i64 yt)).setCell ⟨ab, 9, none⟩ (.int .i64 yk)).setCell ⟨ab, 10, none⟩ (.int .i64 yv)).setCell ⟨ab, 11, none⟩ (.string ys)) := (((((((((((((Turned.refl _ _ U5).setCell (p := ⟨ab, 0, none⟩) (Nat.le_refl _) (Nat.lt_succ_self _) _).setCell (p := ⟨ab, 1, none⟩) (Nat.le_refl _) (Nat.lt_succ_self _) _).setCell (p := ⟨ab, 2, none⟩) (Nat.le_refl _) (Nat.lt_succ_self _) _).setCell (p := ⟨ab, 3, none⟩) (Nat.le_refl _) (Nat.lt_succ_self _) _).setCell (p := ⟨ab, 4, none⟩) (Nat.le_refl _) (Nat.lt_succ_self _) _).setCell (p := ⟨ab, 5, none⟩) (Nat.le_refl _) (Nat.lt_succ_self _) _).setCell (p := ⟨ab, 6, none⟩) (Nat.le_refl _) (Nat.lt_succ_self _) _).setCell (p := ⟨ab, 7, none⟩) (Nat.le_refl _) (Nat.lt_succ_self _) _).setCell (p := ⟨ab, 8, none⟩) (Nat.le_refl _) (Nat.lt_succ_self _) _).setCell (p := ⟨ab, 9, none⟩) (Nat.le_refl _) (Nat.lt_succ_self _) _).setCell (p := ⟨ab, 10, none⟩) (Nat.le_refl _) (Nat.lt_succ_self _) _).setCell (p := ⟨ab, 11, none⟩) (Nat.le_refl _) (Nat.lt_succ_self _) _)
            have hbl := T.toBelow (B := Y.heap.size) hHeld.2.size hab
            have hO2 := HOp.out _ (hHeld.2.trans hbl)
            have hx := hHeld.2.trans hbl
            clear T hbl
            obtain ⟨a0, a1, a2, a3, a4, a5, a6, a7, a8, a9, a10, a11, f0, f1, f2, f3, f4, f5, f6, f7, f8, f9, f10, f11⟩ := hB
            refine wpAnyH_ready (rs := [8]) (by kernel_rfl) (by simp) ?_
            refine AllReadyH.cons rfl (fun K hK => ?_) AllReadyH.nil
            go_simp
            refine hK.out _ _ ⟨hO2, hx⟩ (fun hHeld => ?_)
            clear hK K
            try simp only [Act.put]
            try simp only [List.setIfInBounds_toArray]
            try simp only [List.set]
            refine wpAnyH_done (by kernel_rfl) ?_ _
            have b3 : A12 ((((((((((((U5.setCell ⟨ab, 0, none⟩ (.int .i64 q)).setCell ⟨ab, 1, none⟩ (.bool tn)).setCell ⟨ab, 2, none⟩ (.bool cw)).setCell ⟨ab, 3, none⟩ (.int .i64 bt)).setCell ⟨ab, 4, none⟩ (.int .i64 bk)).setCell ⟨ab, 5, none⟩ (.int .i64 bv)).setCell ⟨ab, 6, none⟩ (.string bs)).setCell ⟨ab, 7, none⟩ (.bool ci)).setCell ⟨ab, 8, none⟩ (.int .i64 yt)).setCell ⟨ab, 9, none⟩ (.int .i64 yk)).setCell ⟨ab, 10, none⟩ (.int .i64 yv)).setCell ⟨ab, 11, none⟩ (.string ys)) ab q tn cw bt bk bv bs ci yt yk yv ys := ⟨by simp [go_sem, a0], by simp [go_sem, a1], by simp [go_sem, a2], by simp [go_sem, a3], by simp [go_sem, a4], by simp [go_sem, a5], by simp [go_sem, a6], by simp [go_sem, a7], by simp [go_sem, a8], by simp [go_sem, a9], by simp [go_sem, a10], by simp [go_sem, a11]⟩
            go_wp2_with fail
            go_meet
            case rel => exact ⟨ab, rfl, hHeld.2, b3⟩
          · have gg : Below U3.heap.size U3 (U3.alloc (.cells #[.int .i64 0, .bool false, .bool false, .int .i64 0, .int .i64 0, .int .i64 0, .string ⟨#[]⟩, .bool false, .int .i64 0, .int .i64 0, .int .i64 0, .string ⟨#[]⟩] 35)) := by go_grown
            have hab : Y.heap.size ≤ U3.heap.size := hHeld.2.size
            have hB : R12 (U3.alloc (.cells #[.int .i64 0, .bool false, .bool false, .int .i64 0, .int .i64 0, .int .i64 0, .string ⟨#[]⟩, .bool false, .int .i64 0, .int .i64 0, .int .i64 0, .string ⟨#[]⟩] 35)) U3.heap.size := ⟨by simp [go_sem], by simp [go_sem], by simp [go_sem], by simp [go_sem], by simp [go_sem], by simp [go_sem], by simp [go_sem], by simp [go_sem], by simp [go_sem], by simp [go_sem], by simp [go_sem], by simp [go_sem], by simp [go_sem], by simp [go_sem], by simp [go_sem], by simp [go_sem], by simp [go_sem], by simp [go_sem], by simp [go_sem], by simp [go_sem], by simp [go_sem], by simp [go_sem], by simp [go_sem], by simp [go_sem]⟩
            go_simp
            refine hK.out _ _ ⟨hHeld.1.below gg hHeld.1.lt, hHeld.2.trans (gg.mono hHeld.2.size)⟩ (fun hHeld => ?_)
            clear hK K
            have n0 := n0.below gg (Nat.le_refl _)
            have n1 := n1.below gg (Nat.le_refl _)
            clear gg
            generalize U3.alloc (.cells #[.int .i64 0, .bool false, .bool false, .int .i64 0, .int .i64 0, .int .i64 0, .string ⟨#[]⟩, .bool false, .int .i64 0, .int .i64 0, .int .i64 0, .string ⟨#[]⟩] 35) = U6 at hHeld hB n0 n1 ⊢
            generalize U3.heap.size = ab at hB hab ⊢
            try simp only [Act.put]
            try simp only [List.setIfInBounds_toArray]
            try simp only [List.set]
            refine wpAnyH_ready (rs := [6]) (by kernel_rfl) (by simp) ?_
            refine AllReadyH.cons rfl (fun K hK => ?_) AllReadyH.nil
            go_simp
            go_wp2_with (go_at_call 7; refine (HSpec.out _ _ _ n0 n1).mono ?_; rintro e U7 ⟨rfl, gg⟩)
            refine hK.out _ _ ⟨hHeld.1.below gg hHeld.1.lt, hHeld.2.trans (gg.mono hHeld.2.size)⟩ (fun hHeld => ?_)
            clear hK K
            have hB := hB.below gg hB.lt
            clear gg
            try simp only [Act.put]
            try simp only [List.setIfInBounds_toArray]
            try simp only [List.set]
            have T : Turned ab (ab + 1) U7 ((((((((((((U7.setCell ⟨ab, 0, none⟩ (.int .i64 q)).setCell ⟨ab, 1, none⟩ (.bool tn)).setCell ⟨ab, 2, none⟩ (.bool cw)).setCell ⟨ab, 3, none⟩ (.int .i64 bt)).setCell ⟨ab, 4, none⟩ (.int .i64 bk)).setCell ⟨ab, 5, none⟩ (.int .i64 bv)).setCell ⟨ab, 6, none⟩ (.string bs)).setCell ⟨ab, 7, none⟩ (.bool ci)).setCell ⟨ab, 8, none⟩ (.int .i64 yt)).setCell ⟨ab, 9, none⟩ (.int .i64 yk)).setCell ⟨ab, 10, none⟩ (.int .i64 yv)).setCell ⟨ab, 11, none⟩ (.string ys)) := (((((((((((((Turned.refl _ _ U7).setCell (p := ⟨ab, 0, none⟩) (Nat.le_refl _) (Nat.lt_succ_self _) _).setCell (p := ⟨ab, 1, none⟩) (Nat.le_refl _) (Nat.lt_succ_self _) _).setCell (p := ⟨ab, 2, none⟩) (Nat.le_refl _) (Nat.lt_succ_self _) _).setCell (p := ⟨ab, 3, none⟩) (Nat.le_refl _) (Nat.lt_succ_self _) _).setCell (p := ⟨ab, 4, none⟩) (Nat.le_refl _) (Nat.lt_succ_self _) _).setCell (p := ⟨ab, 5, none⟩) (Nat.le_refl _) (Nat.lt_succ_self _) _).setCell (p := ⟨ab, 6, none⟩) (Nat.le_refl _) (Nat.lt_succ_self _) _).setCell (p := ⟨ab, 7, none⟩) (Nat.le_refl _) (Nat.lt_succ_self _) _).setCell (p := ⟨ab, 8, none⟩) (Nat.le_refl _) (Nat.lt_succ_self _) _).setCell (p := ⟨ab, 9, none⟩) (Nat.le_refl _) (Nat.lt_succ_self _) _).setCell (p := ⟨ab, 10, none⟩) (Nat.le_refl _) (Nat.lt_succ_self _) _).setCell (p := ⟨ab, 11, none⟩) (Nat.le_refl _) (Nat.lt_succ_self _) _)
            have hbl := T.toBelow (B := Y.heap.size) hHeld.2.size hab
            have hO2 := HOp.out _ (hHeld.2.trans hbl)
            have hx := hHeld.2.trans hbl
            clear T hbl
            obtain ⟨a0, a1, a2, a3, a4, a5, a6, a7, a8, a9, a10, a11, f0, f1, f2, f3, f4, f5, f6, f7, f8, f9, f10, f11⟩ := hB
            refine wpAnyH_ready (rs := [8]) (by kernel_rfl) (by simp) ?_
            refine AllReadyH.cons rfl (fun K hK => ?_) AllReadyH.nil
            go_simp
            refine hK.out _ _ ⟨hO2, hx⟩ (fun hHeld => ?_)
            clear hK K
            try simp only [Act.put]
            try simp only [List.setIfInBounds_toArray]
            try simp only [List.set]
            refine wpAnyH_done (by kernel_rfl) ?_ _
            have b3 : A12 ((((((((((((U7.setCell ⟨ab, 0, none⟩ (.int .i64 q)).setCell ⟨ab, 1, none⟩ (.bool tn)).setCell ⟨ab, 2, none⟩ (.bool cw)).setCell ⟨ab, 3, none⟩ (.int .i64 bt)).setCell ⟨ab, 4, none⟩ (.int .i64 bk)).setCell ⟨ab, 5, none⟩ (.int .i64 bv)).setCell ⟨ab, 6, none⟩ (.string bs)).setCell ⟨ab, 7, none⟩ (.bool ci)).setCell ⟨ab, 8, none⟩ (.int .i64 yt)).setCell ⟨ab, 9, none⟩ (.int .i64 yk)).setCell ⟨ab, 10, none⟩ (.int .i64 yv)).setCell ⟨ab, 11, none⟩ (.string ys)) ab q tn cw bt bk bv bs ci yt yk yv ys := ⟨by simp [go_sem, a0], by simp [go_sem, a1], by simp [go_sem, a2], by simp [go_sem, a3], by simp [go_sem, a4], by simp [go_sem, a5], by simp [go_sem, a6], by simp [go_sem, a7], by simp [go_sem, a8], by simp [go_sem, a9], by simp [go_sem, a10], by simp [go_sem, a11]⟩
            go_wp2_with fail
            go_meet
            case rel => exact ⟨ab, rfl, hHeld.2, b3⟩
        · have gg : Below U2.heap.size U2 (U2.alloc (.cells #[.int .i64 0, .bool false, .bool false, .int .i64 0, .int .i64 0, .int .i64 0, .string ⟨#[]⟩, .bool false, .int .i64 0, .int .i64 0, .int .i64 0, .string ⟨#[]⟩] 35)) := by go_grown
          have hab : Y.heap.size ≤ U2.heap.size := hHeld.2.size
          have hB : R12 (U2.alloc (.cells #[.int .i64 0, .bool false, .bool false, .int .i64 0, .int .i64 0, .int .i64 0, .string ⟨#[]⟩, .bool false, .int .i64 0, .int .i64 0, .int .i64 0, .string ⟨#[]⟩] 35)) U2.heap.size := ⟨by simp [go_sem], by simp [go_sem], by simp [go_sem], by simp [go_sem], by simp [go_sem], by simp [go_sem], by simp [go_sem], by simp [go_sem], by simp [go_sem], by simp [go_sem], by simp [go_sem], by simp [go_sem], by simp [go_sem], by simp [go_sem], by simp [go_sem], by simp [go_sem], by simp [go_sem], by simp [go_sem], by simp [go_sem], by simp [go_sem], by simp [go_sem], by simp [go_sem], by simp [go_sem], by simp [go_sem]⟩
          go_simp
          refine hK.out _ _ ⟨hHeld.1.below gg hHeld.1.lt, hHeld.2.trans (gg.mono hHeld.2.size)⟩ (fun hHeld => ?_)
          clear hK K
          have n0 := n0.below gg (Nat.le_refl _)
          have n1 := n1.below gg (Nat.le_refl _)
          clear gg
          generalize U2.alloc (.cells #[.int .i64 0, .bool false, .bool false, .int .i64 0, .int .i64 0, .int .i64 0, .string ⟨#[]⟩, .bool false, .int .i64 0, .int .i64 0, .int .i64 0, .string ⟨#[]⟩] 35) = U8 at hHeld hB n0 n1 ⊢
          generalize U2.heap.size = ab at hB hab ⊢
          try simp only [Act.put]
          try simp only [List.setIfInBounds_toArray]
          try simp only [List.set]
          refine wpAnyH_ready (rs := [5]) (by kernel_rfl) (by simp) ?_
          refine AllReadyH.cons rfl (fun K hK => ?_) AllReadyH.nil
          go_simp
          go_wp2_with (go_at_call 10; refine (HTp.out _).mono ?_; rintro e U9 ⟨rfl, gg⟩)
          refine hK.out _ _ ⟨hHeld.1.below gg hHeld.1.lt, hHeld.2.trans (gg.mono hHeld.2.size)⟩ (fun hHeld => ?_)
          clear hK K
          have n0 := n0.below gg (Nat.le_refl _)
          have n1 := n1.below gg (Nat.le_refl _)
          have hB := hB.below gg hB.lt
          clear gg
          try simp only [Act.put]
          try simp only [List.setIfInBounds_toArray]
          try simp only [List.set]
          refine wpAnyH_ready (rs := [6]) (by kernel_rfl) (by simp) ?_
          refine AllReadyH.cons rfl (fun K hK => ?_) AllReadyH.nil
          go_simp
          go_wp2_with (go_at_call 7; refine (HSpec.out _ _ _ n0 n1).mono ?_; rintro e U10 ⟨rfl, gg⟩)
          refine hK.out _ _ ⟨hHeld.1.below gg hHeld.1.lt, hHeld.2.trans (gg.mono hHeld.2.size)⟩ (fun hHeld => ?_)
          clear hK K
          have hB := hB.below gg hB.lt
          clear gg
          try simp only [Act.put]
          try simp only [List.setIfInBounds_toArray]
          try simp only [List.set]
          have T : Turned ab (ab + 1) U10 ((((((((((((U10.setCell ⟨ab, 0, none⟩ (.int .i64 q)).setCell ⟨ab, 1, none⟩ (.bool tn)).setCell ⟨ab, 2, none⟩ (.bool cw)).setCell ⟨ab, 3, none⟩ (.int .i64 bt)).setCell ⟨ab, 4, none⟩ (.int .i64 bk)).setCell ⟨ab, 5, none⟩ (.int .i64 bv)).setCell ⟨ab, 6, none⟩ (.string bs)).setCell ⟨ab, 7, none⟩ (.bool ci)).setCell ⟨ab, 8, none⟩ (.int .i64 yt)).setCell ⟨ab, 9, none⟩ (.int .i64 yk)).setCell ⟨ab, 10, none⟩ (.int .i64 yv)).setCell ⟨ab, 11, none⟩ (.string ys)) := (((((((((((((Turned.refl _ _ U10).setCell (p := ⟨ab, 0, none⟩) (Nat.le_refl _) (Nat.lt_succ_self _) _).setCell (p := ⟨ab, 1, none⟩) (Nat.le_refl _) (Nat.lt_succ_self _) _).setCell (p := ⟨ab, 2, none⟩) (Nat.le_refl _) (Nat.lt_succ_self _) _).setCell (p := ⟨ab, 3, none⟩) (Nat.le_refl _) (Nat.lt_succ_self _) _).setCell (p := ⟨ab, 4, none⟩) (Nat.le_refl _) (Nat.lt_succ_self _) _).setCell (p := ⟨ab, 5, none⟩) (Nat.le_refl _) (Nat.lt_succ_self _) _).setCell (p := ⟨ab, 6, none⟩) (Nat.le_refl _) (Nat.lt_succ_self _) _).setCell (p := ⟨ab, 7, none⟩) (Nat.le_refl _) (Nat.lt_succ_self _) _).setCell (p := ⟨ab, 8, none⟩) (Nat.le_refl _) (Nat.lt_succ_self _) _).setCell (p := ⟨ab, 9, none⟩) (Nat.le_refl _) (Nat.lt_succ_self _) _).setCell (p := ⟨ab, 10, none⟩) (Nat.le_refl _) (Nat.lt_succ_self _) _).setCell (p := ⟨ab, 11, none⟩) (Nat.le_refl _) (Nat.lt_succ_self _) _)
          have hbl := T.toBelow (B := Y.heap.size) hHeld.2.size hab
          have hO2 := HOp.out _ (hHeld.2.trans hbl)
          have hx := hHeld.2.trans hbl
          clear T hbl
          obtain ⟨a0, a1, a2, a3, a4, a5, a6, a7, a8, a9, a10, a11, f0, f1, f2, f3, f4, f5, f6, f7, f8, f9, f10, f11⟩ := hB
          refine wpAnyH_ready (rs := [8]) (by kernel_rfl) (by simp) ?_
          refine AllReadyH.cons rfl (fun K hK => ?_) AllReadyH.nil
          go_simp
          refine hK.out _ _ ⟨hO2, hx⟩ (fun hHeld => ?_)
          clear hK K
          try simp only [Act.put]
          try simp only [List.setIfInBounds_toArray]
          try simp only [List.set]
          refine wpAnyH_done (by kernel_rfl) ?_ _
          have b3 : A12 ((((((((((((U10.setCell ⟨ab, 0, none⟩ (.int .i64 q)).setCell ⟨ab, 1, none⟩ (.bool tn)).setCell ⟨ab, 2, none⟩ (.bool cw)).setCell ⟨ab, 3, none⟩ (.int .i64 bt)).setCell ⟨ab, 4, none⟩ (.int .i64 bk)).setCell ⟨ab, 5, none⟩ (.int .i64 bv)).setCell ⟨ab, 6, none⟩ (.string bs)).setCell ⟨ab, 7, none⟩ (.bool ci)).setCell ⟨ab, 8, none⟩ (.int .i64 yt)).setCell ⟨ab, 9, none⟩ (.int .i64 yk)).setCell ⟨ab, 10, none⟩ (.int .i64 yv)).setCell ⟨ab, 11, none⟩ (.string ys)) ab q tn cw bt bk bv bs ci yt yk yv ys := ⟨by simp [go_sem, a0], by simp [go_sem, a1], by simp [go_sem, a2], by simp [go_sem, a3], by simp [go_sem, a4], by simp [go_sem, a5], by simp [go_sem, a6], by simp [go_sem, a7], by simp [go_sem, a8], by simp [go_sem, a9], by simp [go_sem, a10], by simp [go_sem, a11]⟩
          go_wp2_with fail
          go_meet
          case rel => exact ⟨ab, rfl, hHeld.2, b3⟩
      · have gg : Below U1.heap.size U1 (U1.alloc (.cells #[.int .i64 0, .bool false, .bool false, .int .i64 0, .int .i64 0, .int .i64 0, .string ⟨#[]⟩, .bool false, .int .i64 0, .int .i64 0, .int .i64 0, .string ⟨#[]⟩] 35)) := by go_grown
        have hab : Y.heap.size ≤ U1.heap.size := hHeld.2.size
        have hB : R12 (U1.alloc (.cells #[.int .i64 0, .bool false, .bool false, .int .i64 0, .int .i64 0, .int .i64 0, .string ⟨#[]⟩, .bool false, .int .i64 0, .int .i64 0, .int .i64 0, .string ⟨#[]⟩] 35)) U1.heap.size := ⟨by simp [go_sem], by simp [go_sem], by simp [go_sem], by simp [go_sem], by simp [go_sem], by simp [go_sem], by simp [go_sem], by simp [go_sem], by simp [go_sem], by simp [go_sem], by simp [go_sem], by simp [go_sem], by simp [go_sem], by simp [go_sem], by simp [go_sem], by simp [go_sem], by simp [go_sem], by simp [go_sem], by simp [go_sem], by simp [go_sem], by simp [go_sem], by simp [go_sem], by simp [go_sem], by simp [go_sem]⟩
        go_simp
        refine hK.out _ _ ⟨hHeld.1.below gg hHeld.1.lt, hHeld.2.trans (gg.mono hHeld.2.size)⟩ (fun hHeld => ?_)
        clear hK K
        have n0 := n0.below gg (Nat.le_refl _)
        clear gg
        generalize U1.alloc (.cells #[.int .i64 0, .bool false, .bool false, .int .i64 0, .int .i64 0, .int .i64 0, .string ⟨#[]⟩, .bool false, .int .i64 0, .int .i64 0, .int .i64 0, .string ⟨#[]⟩] 35) = U11 at hHeld hB n0 ⊢
        generalize U1.heap.size = ab at hB hab ⊢
        try simp only [Act.put]
        try simp only [List.setIfInBounds_toArray]
        try simp only [List.set]
        refine wpAnyH_ready (rs := [3]) (by kernel_rfl) (by simp) ?_
        refine AllReadyH.cons rfl (fun K hK => ?_) AllReadyH.nil
        go_simp
        go_wp2_with (go_at_call 9; refine (HTt.out _ (g.trans (hHeld.2.mono g.size))).mono ?_; rintro e U12 ⟨rfl, gg, n1⟩)
        refine hK.out _ _ ⟨hHeld.1.below gg hHeld.1.lt, hHeld.2.trans (gg.mono hHeld.2.size)⟩ (fun hHeld => ?_)
        clear hK K
        have n0 := n0.below gg (Nat.le_refl _)
        have hB := hB.below gg hB.lt
        clear gg
        generalize U11.heap.size = lb' at n1 ⊢
        try simp only [Act.put]
        try simp only [List.setIfInBounds_toArray]
        try simp only [List.set]
        refine wpAnyH_ready (rs := [5]) (by kernel_rfl) (by simp) ?_
        refine AllReadyH.cons rfl (fun K hK => ?_) AllReadyH.nil
        go_simp
        go_wp2_with (go_at_call 10; refine (HTp.out _).mono ?_; rintro e U13 ⟨rfl, gg⟩)
        refine hK.out _ _ ⟨hHeld.1.below gg hHeld.1.lt, hHeld.2.trans (gg.mono hHeld.2.size)⟩ (fun hHeld => ?_)
        clear hK K
        have n0 := n0.below gg (Nat.le_refl _)
        have n1 := n1.below gg (Nat.le_refl _)
        have hB := hB.below gg hB.lt
        clear gg
        try simp only [Act.put]
        try simp only [List.setIfInBounds_toArray]
        try simp only [List.set]
        refine wpAnyH_ready (rs := [6]) (by kernel_rfl) (by simp) ?_
        refine AllReadyH.cons rfl (fun K hK => ?_) AllReadyH.nil
        go_simp
        go_wp2_with (go_at_call 7; refine (HSpec.out _ _ _ n0 n1).mono ?_; rintro e U14 ⟨rfl, gg⟩)
        refine hK.out _ _ ⟨hHeld.1.below gg hHeld.1.lt, hHeld.2.trans (gg.mono hHeld.2.size)⟩ (fun hHeld => ?_)
        clear hK K
        have hB := hB.below gg hB.lt
        clear gg
        try simp only [Act.put]
        try simp only [List.setIfInBounds_toArray]
        try simp only [List.set]
        have T : Turned ab (ab + 1) U14 ((((((((((((U14.setCell ⟨ab, 0, none⟩ (.int .i64 q)).setCell ⟨ab, 1, none⟩ (.bool tn)).setCell ⟨ab, 2, none⟩ (.bool cw)).setCell ⟨ab, 3, none⟩ (.int .i64 bt)).setCell ⟨ab, 4, none⟩ (.int .i64 bk)).setCell ⟨ab, 5, none⟩ (.int .i64 bv)).setCell ⟨ab, 6, none⟩ (.string bs)).setCell ⟨ab, 7, none⟩ (.bool ci)).setCell ⟨ab, 8, none⟩ (.int .i64 yt)).setCell ⟨ab, 9, none⟩ (.int .i64 yk)).setCell ⟨ab, 10, none⟩ (.int .i64 yv)).setCell ⟨ab, 11, none⟩ (.string ys)) := (((((((((((((Turned.refl _ _ U14).setCell (p := ⟨ab, 0, none⟩) (Nat.le_refl _) (Nat.lt_succ_self _) _).setCell (p := ⟨ab, 1, none⟩) (Nat.le_refl _) (Nat.lt_succ_self _) _).setCell (p := ⟨ab, 2, none⟩) (Nat.le_refl _) (Nat.lt_succ_self _) _).setCell (p := ⟨ab, 3, none⟩) (Nat.le_refl _) (Nat.lt_succ_self _) _).setCell (p := ⟨ab, 4, none⟩) (Nat.le_refl _) (Nat.lt_succ_self _) _).setCell (p := ⟨ab, 5, none⟩) (Nat.le_refl _) (Nat.lt_succ_self _) _).setCell (p := ⟨ab, 6, none⟩) (Nat.le_refl _) (Nat.lt_succ_self _) _).setCell (p := ⟨ab, 7, none⟩) (Nat.le_refl _) (Nat.lt_succ_self _) _).setCell (p := ⟨ab, 8, none⟩) (Nat.le_refl _) (Nat.lt_succ_self _) _).setCell (p := ⟨ab, 9, none⟩) (Nat.le_refl _) (Nat.lt_succ_self _) _).setCell (p := ⟨ab, 10, none⟩) (Nat.le_refl _) (Nat.lt_succ_self _) _).setCell (p := ⟨ab, 11, none⟩) (Nat.le_refl _) (Nat.lt_succ_self _) _)
        have hbl := T.toBelow (B := Y.heap.size) hHeld.2.size hab
        have hO2 := HOp.out _ (hHeld.2.trans hbl)
        have hx := hHeld.2.trans hbl
        clear T hbl
        obtain ⟨a0, a1, a2, a3, a4, a5, a6, a7, a8, a9, a10, a11, f0, f1, f2, f3, f4, f5, f6, f7, f8, f9, f10, f11⟩ := hB
        refine wpAnyH_ready (rs := [8]) (by kernel_rfl) (by simp) ?_
        refine AllReadyH.cons rfl (fun K hK => ?_) AllReadyH.nil
        go_simp
        refine hK.out _ _ ⟨hO2, hx⟩ (fun hHeld => ?_)
        clear hK K
        try simp only [Act.put]
        try simp only [List.setIfInBounds_toArray]
        try simp only [List.set]
        refine wpAnyH_done (by kernel_rfl) ?_ _
        have b3 : A12 ((((((((((((U14.setCell ⟨ab, 0, none⟩ (.int .i64 q)).setCell ⟨ab, 1, none⟩ (.bool tn)).setCell ⟨ab, 2, none⟩ (.bool cw)).setCell ⟨ab, 3, none⟩ (.int .i64 bt)).setCell ⟨ab, 4, none⟩ (.int .i64 bk)).setCell ⟨ab, 5, none⟩ (.int .i64 bv)).setCell ⟨ab, 6, none⟩ (.string bs)).setCell ⟨ab, 7, none⟩ (.bool ci)).setCell ⟨ab, 8, none⟩ (.int .i64 yt)).setCell ⟨ab, 9, none⟩ (.int .i64 yk)).setCell ⟨ab, 10, none⟩ (.int .i64 yv)).setCell ⟨ab, 11, none⟩ (.string ys)) ab q tn cw bt bk bv bs ci yt yk yv ys := ⟨by simp [go_sem, a0], by simp [go_sem, a1], by simp [go_sem, a2], by simp [go_sem, a3], by simp [go_sem, a4], by simp [go_sem, a5], by simp [go_sem, a6], by simp [go_sem, a7], by simp [go_sem, a8], by simp [go_sem, a9], by simp [go_sem, a10], by simp [go_sem, a11]⟩
        go_wp2_with fail
        go_meet
        case rel => exact ⟨ab, rfl, hHeld.2, b3⟩
    · have gg : Below D0.heap.size D0 (D0.alloc (.cells #[.int .i64 0, .bool false, .bool false, .int .i64 0, .int .i64 0, .int .i64 0, .string ⟨#[]⟩, .bool false, .int .i64 0, .int .i64 0, .int .i64 0, .string ⟨#[]⟩] 35)) := by go_grown
      have hab : Y.heap.size ≤ D0.heap.size := hHeld.2.size
      have hB : R12 (D0.alloc (.cells #[.int .i64 0, .bool false, .bool false, .int .i64 0, .int .i64 0, .int .i64 0, .string ⟨#[]⟩, .bool false, .int .i64 0, .int .i64 0, .int .i64 0, .string ⟨#[]⟩] 35)) D0.heap.size := ⟨by simp [go_sem], by simp [go_sem], by simp [go_sem], by simp [go_sem], by simp [go_sem], by simp [go_sem], by simp [go_sem], by simp [go_sem], by simp [go_sem], by simp [go_sem], by simp [go_sem], by simp [go_sem], by simp [go_sem], by simp [go_sem], by simp [go_sem], by simp [go_sem], by simp [go_sem], by simp [go_sem], by simp [go_sem], by simp [go_sem], by simp [go_sem], by simp [go_sem], by simp [go_sem], by simp [go_sem]⟩
      go_simp
      refine hK.out _ _ ⟨hHeld.1.below gg hHeld.1.lt, hHeld.2.trans (gg.mono hHeld.2.size)⟩ (fun hHeld => ?_)
      clear hK K
      clear gg
      generalize D0.alloc (.cells #[.int .i64 0, .bool false, .bool false, .int .i64 0, .int .i64 0, .int .i64 0, .string ⟨#[]⟩, .bool false, .int .i64 0, .int .i64 0, .int .i64 0, .string ⟨#[]⟩] 35) = U15 at hHeld hB ⊢
      generalize D0.heap.size = ab at hB hab ⊢
      try simp only [Act.put]
      try simp only [List.setIfInBounds_toArray]
      try simp only [List.set]
      refine wpAnyH_ready (rs := [1]) (by kernel_rfl) (by simp) ?_
      refine AllReadyH.cons rfl (fun K hK => ?_) AllReadyH.nil
      go_simp
      go_wp2_with (go_at_call 8; refine (HTr.out _ (g.trans (hHeld.2.mono g.size))).mono ?_; rintro e U16 ⟨rfl, gg, n0⟩)
      refine hK.out _ _ ⟨hHeld.1.below gg hHeld.1.lt, hHeld.2.trans (gg.mono hHeld.2.size)⟩ (fun hHeld => ?_)
      clear hK K
      have hB := hB.below gg hB.lt
      clear gg
      generalize U15.heap.size = lb at n0 ⊢
      try simp only [Act.put]
      try simp only [List.setIfInBounds_toArray]
      try simp only [List.set]
      refine wpAnyH_ready (rs := [3]) (by kernel_rfl) (by simp) ?_
      refine AllReadyH.cons rfl (fun K hK => ?_) AllReadyH.nil
      go_simp
      go_wp2_with (go_at_call 9; refine (HTt.out _ (g.trans (hHeld.2.mono g.size))).mono ?_; rintro e U17 ⟨rfl, gg, n1⟩)
      refine hK.out _ _ ⟨hHeld.1.below gg hHeld.1.lt, hHeld.2.trans (gg.mono hHeld.2.size)⟩ (fun hHeld => ?_)
      clear hK K
      have n0 := n0.below gg (Nat.le_refl _)
      have hB := hB.below gg hB.lt
      clear gg
      generalize U16.heap.size = lb' at n1 ⊢
      try simp only [Act.put]
      try simp only [List.setIfInBounds_toArray]
      try simp only [List.set]
      refine wpAnyH_ready (rs := [5]) (by kernel_rfl) (by simp) ?_
      refine AllReadyH.cons rfl (fun K hK => ?_) AllReadyH.nil
      go_simp
      go_wp2_with (go_at_call 10; refine (HTp.out _).mono ?_; rintro e U18 ⟨rfl, gg⟩)
      refine hK.out _ _ ⟨hHeld.1.below gg hHeld.1.lt, hHeld.2.trans (gg.mono hHeld.2.size)⟩ (fun hHeld => ?_)
      clear hK K
      have n0 := n0.below gg (Nat.le_refl _)
      have n1 := n1.below gg (Nat.le_refl _)
      have hB := hB.below gg hB.lt
      clear gg
      try simp only [Act.put]
      try simp only [List.setIfInBounds_toArray]
      try simp only [List.set]
      refine wpAnyH_ready (rs := [6]) (by kernel_rfl) (by simp) ?_
      refine AllReadyH.cons rfl (fun K hK => ?_) AllReadyH.nil
      go_simp
      go_wp2_with (go_at_call 7; refine (HSpec.out _ _ _ n0 n1).mono ?_; rintro e U19 ⟨rfl, gg⟩)
      refine hK.out _ _ ⟨hHeld.1.below gg hHeld.1.lt, hHeld.2.trans (gg.mono hHeld.2.size)⟩ (fun hHeld => ?_)
      clear hK K
      have hB := hB.below gg hB.lt
      clear gg
      try simp only [Act.put]
      try simp only [List.setIfInBounds_toArray]
      try simp only [List.set]
      have T : Turned ab (ab + 1) U19 ((((((((((((U19.setCell ⟨ab, 0, none⟩ (.int .i64 q)).setCell ⟨ab, 1, none⟩ (.bool tn)).setCell ⟨ab, 2, none⟩ (.bool cw)).setCell ⟨ab, 3, none⟩ (.int .i64 bt)).setCell ⟨ab, 4, none⟩ (.int .i64 bk)).setCell ⟨ab, 5, none⟩ (.int .i64 bv)).setCell ⟨ab, 6, none⟩ (.string bs)).setCell ⟨ab, 7, none⟩ (.bool ci)).setCell ⟨ab, 8, none⟩ (.int .i64 yt)).setCell ⟨ab, 9, none⟩ (.int .i64 yk)).setCell ⟨ab, 10, none⟩ (.int .i64 yv)).setCell ⟨ab, 11, none⟩ (.string ys)) := (((((((((((((Turned.refl _ _ U19).setCell (p := ⟨ab, 0, none⟩) (Nat.le_refl _) (Nat.lt_succ_self _) _).setCell (p := ⟨ab, 1, none⟩) (Nat.le_refl _) (Nat.lt_succ_self _) _).setCell (p := ⟨ab, 2, none⟩) (Nat.le_refl _) (Nat.lt_succ_self _) _).setCell (p := ⟨ab, 3, none⟩) (Nat.le_refl _) (Nat.lt_succ_self _) _).setCell (p := ⟨ab, 4, none⟩) (Nat.le_refl _) (Nat.lt_succ_self _) _).setCell (p := ⟨ab, 5, none⟩) (Nat.le_refl _) (Nat.lt_succ_self _) _).setCell (p := ⟨ab, 6, none⟩) (Nat.le_refl _) (Nat.lt_succ_self _) _).setCell (p := ⟨ab, 7, none⟩) (Nat.le_refl _) (Nat.lt_succ_self _) _).setCell (p := ⟨ab, 8, none⟩) (Nat.le_refl _) (Nat.lt_succ_self _) _).setCell (p := ⟨ab, 9, none⟩) (Nat.le_refl _) (Nat.lt_succ_self _) _).setCell (p := ⟨ab, 10, none⟩) (Nat.le_refl _) (Nat.lt_succ_self _) _).setCell (p := ⟨ab, 11, none⟩) (Nat.le_refl _) (Nat.lt_succ_self _) _)
      have hbl := T.toBelow (B := Y.heap.size) hHeld.2.size hab
      have hO2 := HOp.out _ (hHeld.2.trans hbl)
      have hx := hHeld.2.trans hbl
      clear T hbl
      obtain ⟨a0, a1, a2, a3, a4, a5, a6, a7, a8, a9, a10, a11, f0, f1, f2, f3, f4, f5, f6, f7, f8, f9, f10, f11⟩ := hB
      refine wpAnyH_ready (rs := [8]) (by kernel_rfl) (by simp) ?_
      refine AllReadyH.cons rfl (fun K hK => ?_) AllReadyH.nil
      go_simp
      refine hK.out _ _ ⟨hO2, hx⟩ (fun hHeld => ?_)
      clear hK K
      try simp only [Act.put]
      try simp only [List.setIfInBounds_toArray]
      try simp only [List.set]
      refine wpAnyH_done (by kernel_rfl) ?_ _
      have b3 : A12 ((((((((((((U19.setCell ⟨ab, 0, none⟩ (.int .i64 q)).setCell ⟨ab, 1, none⟩ (.bool tn)).setCell ⟨ab, 2, none⟩ (.bool cw)).setCell ⟨ab, 3, none⟩ (.int .i64 bt)).setCell ⟨ab, 4, none⟩ (.int .i64 bk)).setCell ⟨ab, 5, none⟩ (.int .i64 bv)).setCell ⟨ab, 6, none⟩ (.string bs)).setCell ⟨ab, 7, none⟩ (.bool ci)).setCell ⟨ab, 8, none⟩ (.int .i64 yt)).setCell ⟨ab, 9, none⟩ (.int .i64 yk)).setCell ⟨ab, 10, none⟩ (.int .i64 yv)).setCell ⟨ab, 11, none⟩ (.string ys)) ab q tn cw bt bk bv bs ci yt yk yv ys := ⟨by simp [go_sem, a0], by simp [go_sem, a1], by simp [go_sem, a2], by simp [go_sem, a3], by simp [go_sem, a4], by simp [go_sem, a5], by simp [go_sem, a6], by simp [go_sem, a7], by simp [go_sem, a8], by simp [go_sem, a9], by simp [go_sem, a10], by simp [go_sem, a11]⟩
      go_wp2_with fail
      go_meet
      case rel => exact ⟨ab, rfl, hHeld.2, b3⟩
  case rest =>
    obtain ⟨ab, rfl, gk, C3⟩ := hcut
    obtain ⟨w4, hw4⟩ : ∃ w4, w4 = wc := ⟨_, rfl⟩
    subst hw4
    have g := g.trans (gk.mono g.size)
    have HOp : Hid (∀ V, Below w4.heap.size w4 V → OpAt V ob kd tx t k v s mk) := fun V hV => HOp.out V (gk.trans (hV.mono gk.size))
    clear gk HSpec
    go_wp2_with fail
    refine (HTr.out _ g).mono ?_
    rintro e w5 ⟨rfl, g5, o4⟩
    have C3 := C3.below g5
    have g := g.trans (g5.mono g.size)
    have gk := g5
    clear g5
    generalize w4.heap.size = b4 at o4 ⊢
    go_wp2_with fail
    refine (HTt.out _ g).mono ?_
    rintro e w6 ⟨rfl, g6, o5⟩
    have C3 := C3.below g6
    have o4 := o4.below g6 (Nat.le_refl _)
    have g := g.trans (g6.mono g.size)
    have gk := gk.trans (g6.mono gk.size)
    clear g6
    generalize w5.heap.size = b5 at o5 ⊢
    obtain ⟨c0, c1, c2, c3, c4, c5, c6⟩ := HOp.out w6 gk
    go_wp2_with fail
    refine (HTp.out _).mono ?_
    rintro e w7 ⟨rfl, g7⟩
    clear c0 c1 c2 c3 c4 c5 c6
    have C3 := C3.below g7
    have o4 := o4.below g7 (Nat.le_refl _)
    have o5 := o5.below g7 (Nat.le_refl _)
    have g := g.trans (g7.mono g.size)
    clear g7 gk HOp
    have hcon := HImpl.out _ _ _ o4 o5 (HEr.out _ g)
    go_wp2_with fail
    refine hcon.mono ?_
    rintro e w8 ⟨rfl, g8⟩
    clear hcon
    have C3 := C3.below g8
    have o4 := o4.below g8 (Nat.le_refl _)
    have o5 := o5.rd.below g8 (Nat.le_refl _)
    have g := g.trans (g8.mono g.size)
    clear g8 HImpl HEr
    go_upto_region 15 with (fail)
    generalize hZ : World.alloc _ _ = Z
    have gZ : Below w8.heap.size w8 Z := by rw [← hZ]; go_grown
    have C7 : A12 Z w8.heap.size q tn cw bt bk bv bs ci yt yk yv ys := by rw [← hZ]; exact ⟨by simp [go_sem], by simp [go_sem], by simp [go_sem], by simp [go_sem], by simp [go_sem], by simp [go_sem], by simp [go_sem], by simp [go_sem], by simp [go_sem], by simp [go_sem], by simp [go_sem], by simp [go_sem]⟩
    have C3 := C3.below gZ
    have o4 := o4.below gZ (Nat.le_refl _)
    have o5 := o5.below gZ (Nat.le_refl _)
    have g := g.trans (gZ.mono g.size)
    clear gZ hZ
    generalize w8.heap.size = b7 at C7 ⊢
    obtain ⟨x0, x1, x2, x3, x4, x5, x6, x7, x8, x9, x10, x11⟩ := C3
    obtain ⟨y0, y1, y2, y3, y4, y5, y6, y7, y8, y9, y10, y11⟩ := C7
    go_wp2_with fail
    refine (eqChangeResult_same q tn cw bt bk bv bs ci yt yk yv ys _).mono ?_
    rintro e w9 ⟨rfl, g9⟩
    clear x0 y0 x1 y1 x2 y2 x3 y3 x4 y4 x5 y5 x6 y6 x7 y7 x8 y8 x9 y9 x10 y10 x11 y11
    have o4 := o4.below g9 (Nat.le_refl _)
    have o5 := o5.below g9 (Nat.le_refl _)
    have g := g.trans (g9.mono g.size)
    clear g9
    go_wp2_with fail
    refine (HTr.out _ g).mono ?_
    rintro e w10 ⟨rfl, g10, o9⟩
    have o4 := o4.below g10 (Nat.le_refl _)
    have o5 := o5.below g10 (Nat.le_refl _)
    have g := g.trans (g10.mono g.size)
    clear g10
    generalize w9.heap.size = b9 at o9 ⊢
    go_wp2_with fail
    refine (eqRowS_same _ _ rs rn rn rn _ HRn.out (by omega) o4 o9).mono ?_
    rintro e w11 ⟨rfl, g11⟩
    have o5 := o5.below g11 (Nat.le_refl _)
    have g := g.trans (g11.mono g.size)
    clear g11 o4 o9
    go_wp2_with fail
    refine (HTt.out _ g).mono ?_
    rintro e w12 ⟨rfl, g12, o11⟩
    have o5 := o5.below g12 (Nat.le_refl _)
    have g := g.trans (g12.mono g.size)
    clear g12
    generalize w11.heap.size = b11 at o11 ⊢
    go_wp2_with fail
    refine (eqTxS_same _ _ xs n n n _ HN.out HS.out (by omega) o5 o11.rd).mono ?_
    rintro e w13 ⟨rfl, g13⟩
    have g := g.trans (g13.mono g.size)
    clear g13 o5 o11
    go_wp2_with fail
    go_ret
    exact ⟨rfl, g⟩

end Go.Proofs.YtpjlpnaamkbicaaGreatDoor
