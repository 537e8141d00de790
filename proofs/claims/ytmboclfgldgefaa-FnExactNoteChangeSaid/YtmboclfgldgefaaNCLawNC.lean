/-
  The law FnExactNoteChange answers true.
-/
import Derived.Test.YtmboclfgldgefaaNCSzt
import Derived.Test.YtmboclfgldgefaaNCTxr
import Derived.Test.YtmboclfgldgefaaNCLawTX
import Derived.Test.YtmboclfgldgefaaNCNsm
import Derived.Test.YtmboclfgldgefaaNCNci

namespace Go.Proofs.Ytmboclfgldgefaa
open Go.ChangeShapes Go.WideShapes Go.RowKit Go.Maps
set_option linter.unusedVariables false
set_option maxRecDepth 20000

/-- What the drawn regions of the law keep. -/
structure LnS (D : World) (b : Nat) (x : Chg) (V : World) : Prop where
  c : ChC V b 0 x
  g : Below D.heap.size D V
theorem LnS.up {D : World} {b : Nat} {x : Chg} {V V' : World} (h : LnS D b x V) (hb : Below V.heap.size V V') : LnS D b x V' := ⟨h.c.below hb h.c.lt, h.g.trans (hb.mono h.g.size)⟩
theorem LnS.turned {D : World} {b : Nat} {x : Chg} {V V' : World} (h : LnS D b x V) {ab : Nat} (ht : Turned ab (ab + 1) V V') (hd : D.heap.size ≤ ab) (hDV : D.heap.size ≤ V.heap.size) (hb : b < D.heap.size) : LnS D b x V' := by
  have hg := ht.toBelow (B := D.heap.size) hDV hd
  exact ⟨h.c.turned ht (.inl (Nat.lt_of_lt_of_le hb hd)), h.g.trans hg⟩
/-- What stays to the law's end: what came in, what the model answered. -/
structure Kee (Y wc : World) (b4 : Nat) (V : World) : Prop where
  g : Below Y.heap.size Y V
  W : Below b4 wc V
  hw : b4 ≤ V.heap.size
  hy : Y.heap.size ≤ b4
theorem Kee.step {Y wc V V' : World} {b4 : Nat} (h : Kee Y wc b4 V) (hb : Below V.heap.size V V') : Kee Y wc b4 V' := ⟨h.g.trans (hb.mono h.g.size), h.W.trans (hb.mono h.hw), Nat.le_trans h.hw hb.size, h.hy⟩
theorem Kee.turned {Y wc V V' : World} {b4 lo hi : Nat} (h : Kee Y wc b4 V) (t : Turned lo hi V V') (hl : b4 ≤ lo) : Kee Y wc b4 V' := ⟨h.g.trans (t.toBelow h.g.size (Nat.le_trans h.hy hl)), h.W.trans (t.toBelow h.hw hl), Nat.le_trans h.hw t.size, h.hy⟩
/-- The program's answer, till it is marked. -/
structure G0s (b7 B5 : Nat) (Q : Int) (a5 : Option Addr) (ln c5 : Nat) (L : List TxV) (V : World) : Prop where
  c : E2 V b7 Q (.slice a5 ln c5)
  o : OwZ B5 b7 V a5 L
theorem G0s.step {b7 B5 : Nat} {Q : Int} {a5 : Option Addr} {ln c5 : Nat} {L : List TxV} {V V' : World} (h : G0s b7 B5 Q a5 ln c5 L V) (hb : Below V.heap.size V V') : G0s b7 B5 Q a5 ln c5 L V' := ⟨h.c.below hb h.c.lt, h.o.below hb⟩
theorem G0s.turned {b7 B5 lo hi : Nat} {Q : Int} {a5 : Option Addr} {ln c5 : Nat} {L : List TxV} {V V' : World} (h : G0s b7 B5 Q a5 ln c5 L V) (t : Turned lo hi V V') (h1 : hi ≤ B5) (h2 : hi ≤ b7) : G0s b7 B5 Q a5 ln c5 L V' := ⟨⟨t.cell h.c.c0 (.inr h2), t.cell h.c.c1 (.inr h2)⟩, h.o.low t h1⟩

set_option maxHeartbeats 16000000 in
theorem lawNoteChange_any (a : Option Addr) (n c : Nat) (xs : List TxV) (tx : Int) (x0 : Bool) (xt xk xv : Int) (xst : ByteArray) (x5 : Bool) (yt yk yv : Int) (yst : ByteArray) (w : World) (h : IsTxs w a n xs) (hxb : xst.size ≤ maxLen) (hxa : yst.size ≤ maxLen) :
    Calls Try.prog 5 #[.slice a n c, .int .i64 tx, .agg #[.bool x0, .int .i64 xt, .int .i64 xk, .int .i64 xv, .string xst, .bool x5, .int .i64 yt, .int .i64 yk, .int .i64 yv, .string yst]] w fun e w' => e = .returned (.bool true) ∧ Below w.heap.size w w' := by
  have HR0 : Hid (∀ V, Below w.heap.size w V → TxRd V a xs) := fun V hV => h.rd.below hV (Nat.le_refl _)
  have HN : Hid (xs.length = n) := h.eq
  have HI : Hid (∀ V, Below w.heap.size w V → IsTxs V a n xs) := fun V hV => ⟨h.rd.below hV (Nat.le_refl _), h.eq, h.ln, h.ok⟩
  clear h
  go_enter Try.func5, Try.ntmps5
  go_upto_region 1 with (fail)
  generalize hY : World.alloc _ _ = Y
  have gY : Below w.heap.size w Y := by rw [← hY]; go_grown
  have hk : ChC Y w.heap.size 0 (⟨x0, ⟨xt, xk, xv, xst⟩, x5, ⟨yt, yk, yv, yst⟩⟩ : Chg) := by rw [← hY]; exact ⟨by simp [go_sem], by simp [go_sem], by simp [go_sem], by simp [go_sem], by simp [go_sem], by simp [go_sem], by simp [go_sem], by simp [go_sem], by simp [go_sem], by simp [go_sem]⟩
  clear hY
  obtain ⟨bx, hbx⟩ : ∃ bx, w.heap.size = bx := ⟨_, rfl⟩
  rw [hbx] at hk
  simp only [hbx]
  have HBX : Hid (w.heap.size = bx) := hbx
  clear hbx
  have hbY := hk.lt
  have HK : Hid (∀ V, Below Y.heap.size Y V → ChC V bx 0 (⟨x0, ⟨xt, xk, xv, xst⟩, x5, ⟨yt, yk, yv, yst⟩⟩ : Chg)) := fun V hV => hk.below hV hbY
  have HR : Hid (∀ V, Below Y.heap.size Y V → TxRd V a xs) := fun V hV => HR0.out V (gY.trans (hV.mono gY.size))
  clear hk HR0
  have hsz := szTxS_le a xs n c Y 1048576 (HI.out Y gY) (by omega) (by omega)
  go_wp2_with fail
  refine hsz.mono ?_
  rintro e w2 ⟨⟨r, rfl, hr1, hl⟩, gB⟩
  clear hsz HI
  by_cases h0 : r < 0
  · go_wp2_with fail
    go_ret
    exact ⟨rfl, gY.trans (gB.mono gY.size)⟩
  obtain ⟨hn, hs⟩ := hl (by omega)
  have HS : Hid (∀ x ∈ xs, TxOk 1048576 x) := hs
  have h0' : ¬ r < 0 := h0
  have HNS : Hid (n + nS xs ≤ 1048576) := by show _ ≤ _; omega
  have hn : n ≤ 1048576 := by omega
  clear hl hs h0
  obtain ⟨z0, z1, z2, z3, z4, z5, z6, z7, z8, z9⟩ := HK.out _ gB
  dsimp only at z0 z1 z2 z3 z4 z5 z6 z7 z8 z9
  have hsz := szChange_le x0 xt xk xv xst x5 yt yk yv yst r w2 hxb hxa (by omega) hr1
  go_wp2_with fail
  refine hsz.mono ?_
  rintro e w3 ⟨⟨r3, rfl, hr3, hl⟩, gB3⟩
  have gB := gB.trans (gB3.mono gB.size)
  clear hsz gB3 z0 z1 z2 z3 z4 z5 z6 z7 z8 z9
  by_cases h0 : r3 < 0
  · go_wp2_with fail
    go_ret
    exact ⟨rfl, gY.trans (gB.mono gY.size)⟩
  obtain ⟨hxb, hxa⟩ := hl (by omega)
  have h0'' : ¬ r3 < 0 := h0
  clear hl h0
  have HCS : Hid (1 + cS xs ≤ 40000000) := by have h1 := cS_nS xs; have h2 := HNS.out; have h3 := HN.out; show _ ≤ _; omega
  have HTo : Hid (∀ V, Below Y.heap.size Y V → Calls Try.prog 20 #[.slice a n c] V fun e w' => e = .returned (.slice (some ⟨V.heap.size, 0, none⟩) n n) ∧ Below V.heap.size V w' ∧ ∃ lo hi, OwT w' V.heap.size xs lo hi ∧ ∀ p, p < 3 * xs.length → V.heap.size < lo p ∧ hi p ≤ w'.heap.size) := fun V hV => toTxS_own a xs n c V HN.out hn HS.out (HR.out V hV)
  have HTr : Hid (∀ V, Below Y.heap.size Y V → Calls Try.prog 20 #[.slice a n c] V fun e w' => e = .returned (.slice (some ⟨V.heap.size, 0, none⟩) n n) ∧ Below V.heap.size V w' ∧ TxRc w' (some ⟨V.heap.size, 0, none⟩) xs) := fun V hV => toTxS_any a xs n c V HN.out hn HS.out (HR.out V hV)
  have HTc : Hid (∀ V, Calls Try.prog 27 #[.agg #[.bool x0, .int .i64 xt, .int .i64 xk, .int .i64 xv, .string xst, .bool x5, .int .i64 yt, .int .i64 yk, .int .i64 yv, .string yst]] V fun e w' => e = .returned (.agg #[.bool x0, .int .i64 xt, .int .i64 xk, .int .i64 xv, .string xst, .bool x5, .int .i64 yt, .int .i64 yk, .int .i64 yv, .string yst]) ∧ Below V.heap.size V w') := fun V => toChange_any x0 xt xk xv xst x5 yt yk yv yst V
  obtain ⟨Q, hQ⟩ : ∃ Q, ncQ xs tx (⟨x0, ⟨xt, xk, xv, xst⟩, x5, ⟨yt, yk, yv, yst⟩⟩ : Chg) = Q := ⟨_, rfl⟩
  obtain ⟨L, hL⟩ : ∃ L, ncL xs tx (⟨x0, ⟨xt, xk, xv, xst⟩, x5, ⟨yt, yk, yv, yst⟩⟩ : Chg) = L := ⟨_, rfl⟩
  obtain ⟨ln, hln⟩ : ∃ ln, L.length = ln := ⟨_, rfl⟩
  have HSpec : Hid (∀ (a : Option Addr) (W : World), TxRc W a xs → Calls Try.prog 26 #[.slice a n n, .int .i64 tx, .agg #[.bool x0, .int .i64 xt, .int .i64 xk, .int .i64 xv, .string xst, .bool x5, .int .i64 yt, .int .i64 yk, .int .i64 yv, .string yst]] W fun e w' => ∃ a' c', e = .returned (.agg #[.int .i64 Q, .slice a' ln c']) ∧ Below W.heap.size W w' ∧ OwA W.heap.size w' a' L) := fun a W h1 => by
    have h := specNoteChange_any a xs n n tx x0 xt xk xv xst x5 yt yk yv yst W HN.out hn HS.out h1 hxb hxa
    rw [hQ, hL] at h
    refine h.mono ?_
    rintro e w' ⟨a', c', h1, h2, h3⟩
    exact ⟨a', c', by rw [← hln]; exact h1, h2, h3⟩
  have HImpl : Hid (∀ (a : Option Addr) (W : World), TxRc W a xs → Calls Try.prog 28 #[.slice a n n, .int .i64 tx, .agg #[.bool x0, .int .i64 xt, .int .i64 xk, .int .i64 xv, .string xst, .bool x5, .int .i64 yt, .int .i64 yk, .int .i64 yv, .string yst]] W fun e w' => ∃ a' c', e = .returned (.agg #[.int .i64 Q, .slice a' ln c']) ∧ Below W.heap.size W w' ∧ OwA W.heap.size w' a' L) := fun a W h1 => by
    have h := implNoteChange_any a xs n n tx x0 xt xk xv xst x5 yt yk yv yst W HN.out hn HS.out h1 hxb hxa
    rw [hQ, hL] at h
    refine h.mono ?_
    rintro e w' ⟨a', c', h1, h2, h3⟩
    exact ⟨a', c', by rw [← hln]; exact h1, h2, h3⟩
  have HLS : Hid (∀ x ∈ L, TxOk 1048576 x) := by rw [← hL]; exact ncL_ok HS.out hxb hxa
  have HL4 : Hid (ln ≤ 4 ∧ ∀ x ∈ L, x.u.length ≤ 1000 ∧ x.m.length ≤ 1000 ∧ x.l.length ≤ 1000) := by
    have h := @ncL_small xs tx (⟨x0, ⟨xt, xk, xv, xst⟩, x5, ⟨yt, yk, yv, yst⟩⟩ : Chg)
    rw [hL] at h
    rw [← hln]
    exact ⟨h.1, fun x hx => by have := h.2 x hx; omega⟩
  have HLc : Hid (1 + cS L ≤ 900000) := by have h := @ncL_cS xs tx (⟨x0, ⟨xt, xk, xv, xst⟩, x5, ⟨yt, yk, yv, yst⟩⟩ : Chg); rw [hL] at h; show _ ≤ _; omega
  have HLN : Hid (L.length = ln) := hln
  have HEq : Hid (∀ (W : World) (a1 a2 : Option Addr) (c1 c2 : Nat), TxRd W a1 L → TxRd W a2 L → Calls Try.prog 29 #[.agg #[.int .i64 Q, .slice a1 ln c1], .agg #[.int .i64 Q, .slice a2 ln c2]] W fun e w' => e = .returned (.bool true) ∧ Below W.heap.size W w') := fun W a1 a2 c1 c2 h1 h2 => eqTxsResult_same Q a1 a2 L ln c1 c2 W HLN.out (by have := HL4.out.1; omega) HLS.out h1 h2
  obtain ⟨k1, hk1⟩ : ∃ k1 : Int, ((1 + cS xs : Nat) : Int) = k1 := ⟨_, rfl⟩
  obtain ⟨m1, hm1⟩ : ∃ m1 : Int, ((1 + cS L : Nat) : Int) = m1 := ⟨_, rfl⟩
  have hk1n : ¬ k1 < 0 := by omega
  have hm1n : ¬ m1 < 0 := by omega
  have HK1 : Hid (((1 + cS xs : Nat) : Int) = k1) := hk1
  have HMr : Hid (∀ (W : World) (a1 : Option Addr) (c1 B T : Nat), B ≤ W.heap.size → OwZ B T W a1 L → Calls Try.prog 31 #[.agg #[.int .i64 Q, .slice a1 ln c1], .int .i64 1] W fun e w' => e = .returned (.int .i64 m1) ∧ Turned B T W w' ∧ OwZ B T w' a1 (mkTs 1 L)) := fun W a1 c1 B T h1 h2 => by
    have h := markTxsResult_any Q a1 B T L ln c1 1 W HLN.out (by have := HL4.out.1; omega) HLS.out (Nat.le_refl _) (by have := HLc.out; omega) h1 h2
    rw [hm1] at h
    exact h
  have HHe : Hid (∀ (W : World) (a1 : Option Addr) (c1 : Nat), TxRd W a1 (mkTs 1 L) → Calls Try.prog 32 #[.agg #[.int .i64 Q, .slice a1 ln c1], .int .i64 1] W fun e w' => e = .returned (.int .i64 m1) ∧ Below W.heap.size W w') := fun W a1 c1 h1 => by
    have h := heldTxsResult_any Q a1 L ln c1 1 W HLN.out (by have := HL4.out.1; omega) HL4.out.2 (Nat.le_refl _) HLc.out h1
    rw [hm1] at h
    exact h
  clear hQ hL hln hk1 hm1 HLc HNS
  go_upto_region 8 with (fail)
  have hbB : bx < w3.heap.size := Nat.lt_of_lt_of_le hbY gB.size
  go_cut [8] from 15 (fun s8 wc => ∃ (ab : Nat) (a3 : Option Addr) (c3 : Nat), s8 = .pointer (some ⟨ab, 0, none⟩) ∧ Below w3.heap.size w3 wc ∧ E2 wc ab Q (.slice a3 ln c3) ∧ TxRd wc a3 L)
  case first =>
    clear HImpl HTo HEq HMr HHe
    have H : LnS w3 bx (⟨x0, ⟨xt, xk, xv, xst⟩, x5, ⟨yt, yk, yv, yst⟩⟩ : Chg) w3.drew := ⟨HK.out _ (gB.trans ((Below.refl _ w3).drew.mono gB.size)), (Below.refl _ w3).drew⟩
    refine wp_region_held_drew (S := LnS w3 bx (⟨x0, ⟨xt, xk, xv, xst⟩, x5, ⟨yt, yk, yv, yst⟩⟩ : Chg)) (by kernel_rfl) H (fun hHeld => ?_)
    have hDV : w3.heap.size ≤ w3.drew.heap.size := Nat.le_refl _
    generalize w3.drew = D0 at hHeld hDV ⊢
    clear H
    have HT : Hid (∀ V, Below w3.heap.size w3 V → Calls Try.prog 20 #[.slice a n c] V fun e w' => e = .returned (.slice (some ⟨V.heap.size, 0, none⟩) n n) ∧ Below V.heap.size V w' ∧ TxRc w' (some ⟨V.heap.size, 0, none⟩) xs) := fun V hV => HTr.out V (gB.trans (hV.mono gB.size))
    have HNote := HSpec
    clear gB
    refine wpAnyH_take (i := 0) (v := ?v1) rfl (by kernel_rfl) (by kernel_rfl) (by kernel_rfl) (fun _ _ _ h => h) (Or.inl ⟨by kernel_rfl, ?h1⟩) hHeld ?_
    case h1 => intro u hSw; clear hSw; go_simp; try with_reducible rfl
    try simp only [List.getElem_toArray]
    try simp only [List.getElem_cons_succ]
    try simp only [List.getElem_cons_zero]
    try simp only [Act.put]
    try simp only [List.setIfInBounds_toArray]
    try simp only [List.set]
    refine wpAnyH_take (i := 2) (v := ?v2) rfl (by kernel_rfl) (by kernel_rfl) (by kernel_rfl) (fun _ _ _ h => h) (Or.inl ⟨by kernel_rfl, ?h2⟩) hHeld ?_
    case h2 => intro u hSw; clear hSw; go_simp; try with_reducible rfl
    try simp only [List.getElem_toArray]
    try simp only [List.getElem_cons_succ]
    try simp only [List.getElem_cons_zero]
    try simp only [Act.put]
    try simp only [List.setIfInBounds_toArray]
    try simp only [List.set]
    refine wpAnyH_take (i := 3) (v := ?v3) rfl (by kernel_rfl) (by kernel_rfl) (by kernel_rfl) (fun _ _ _ h => h) (Or.inl ⟨by kernel_rfl, ?h3⟩) hHeld ?_
    case h3 => intro u hSw; (obtain ⟨z0, z1, z2, z3, z4, z5, z6, z7, z8, z9⟩ := hSw.c); (dsimp only at z0 z1 z2 z3 z4 z5 z6 z7 z8 z9); clear hSw; go_simp; try with_reducible rfl
    try simp only [List.getElem_toArray]
    try simp only [List.getElem_cons_succ]
    try simp only [List.getElem_cons_zero]
    try simp only [Act.put]
    try simp only [List.setIfInBounds_toArray]
    try simp only [List.set]
    refine wpAnyH_ready (rs := [1, 6]) (by kernel_rfl) (by simp) ?_
    refine AllReadyH.cons rfl (fun K hK => ?_) (AllReadyH.cons rfl (fun K hK => ?_) AllReadyH.nil)
    · go_simp
      go_wp2_with (go_at_call 20; refine (HT.out _ hHeld.g).mono ?_; rintro e U1 ⟨rfl, gg, n1⟩)
      refine hK.out _ _ (hHeld.up gg) (fun hHeld => ?_)
      clear hK K
      have hDV' : w3.heap.size ≤ U1.heap.size := Nat.le_trans hDV gg.size
      clear gg hDV
      have hDV := hDV'
      clear hDV'
      generalize D0.heap.size = lb at n1 ⊢
      try simp only [Act.put]
      try simp only [List.setIfInBounds_toArray]
      try simp only [List.set]
      refine wpAnyH_ready (rs := [4, 6]) (by kernel_rfl) (by simp) ?_
      refine AllReadyH.cons rfl (fun K hK => ?_) (AllReadyH.cons rfl (fun K hK => ?_) AllReadyH.nil)
      · go_simp
        go_wp2_with (go_at_call 27; refine (HTc.out _).mono ?_; rintro e U2 ⟨rfl, gg⟩)
        refine hK.out _ _ (hHeld.up gg) (fun hHeld => ?_)
        clear hK K
        have n1 := n1.below gg (Nat.le_refl _)
        have hDV' : w3.heap.size ≤ U2.heap.size := Nat.le_trans hDV gg.size
        clear gg hDV
        have hDV := hDV'
        clear hDV'
        try simp only [Act.put]
        try simp only [List.setIfInBounds_toArray]
        try simp only [List.set]
        refine wpAnyH_ready (rs := [5, 6]) (by kernel_rfl) (by simp) ?_
        refine AllReadyH.cons rfl (fun K hK => ?_) (AllReadyH.cons rfl (fun K hK => ?_) AllReadyH.nil)
        · go_simp
          go_wp2_with (go_at_call 26; refine (HNote.out _ _ n1).mono ?_; rintro e U3 ⟨a3, c3, rfl, gg, o3⟩)
          refine hK.out _ _ (hHeld.up gg) (fun hHeld => ?_)
          clear hK K
          have o3 : TxRd U3 a3 L := o3.rd.rd
          have hDV' : w3.heap.size ≤ U3.heap.size := Nat.le_trans hDV gg.size
          clear gg hDV
          have hDV := hDV'
          clear hDV'
          clear n1
          try simp only [Act.put]
          try simp only [List.setIfInBounds_toArray]
          try simp only [List.set]
          refine wpAnyH_ready (rs := [6]) (by kernel_rfl) (by simp) ?_
          refine AllReadyH.cons rfl (fun K hK => ?_) AllReadyH.nil
          have gg : Below U3.heap.size U3 (U3.alloc (.cells #[.int .i64 0, .slice none 0 0] 57)) := by go_grown
          have hab : w3.heap.size ≤ U3.heap.size := hDV
          have hB : Nr2 (U3.alloc (.cells #[.int .i64 0, .slice none 0 0] 57)) U3.heap.size := ⟨by simp [go_sem], by simp [go_sem], by simp [go_sem], by simp [go_sem]⟩
          have hDV : w3.heap.size ≤ (U3.alloc (.cells #[.int .i64 0, .slice none 0 0] 57)).heap.size := Nat.le_trans hDV gg.size
          have HO3 : Hid (∀ S, Turned U3.heap.size (U3.heap.size + 1) (U3.alloc (.cells #[.int .i64 0, .slice none 0 0] 57)) S → TxRd S a3 L) := fun S hS => o3.below (gg.trans (hS.toBelow gg.size (Nat.le_refl _))) (Nat.le_refl _)
          go_simp
          refine hK.out _ _ (hHeld.up gg) (fun hHeld => ?_)
          clear hK K
          clear o3
          clear gg
          generalize U3.alloc (.cells #[.int .i64 0, .slice none 0 0] 57) = U4 at hHeld hB hDV HO3 ⊢
          generalize U3.heap.size = ab at hB hab HO3 ⊢
          try simp only [Act.put]
          try simp only [List.setIfInBounds_toArray]
          try simp only [List.set]
          have T : Turned ab (ab + 1) U4 ((U4.setCell ⟨ab, 0, none⟩ (.int .i64 Q)).setCell ⟨ab, 1, none⟩ (.slice a3 ln c3)) := ((Turned.refl _ _ U4).setCell (p := ⟨ab, 0, none⟩) (Nat.le_refl _) (Nat.lt_succ_self _) _).setCell (p := ⟨ab, 1, none⟩) (Nat.le_refl _) (Nat.lt_succ_self _) _
          obtain ⟨a0, a1, f0, f1⟩ := hB
          refine wpAnyH_ready (rs := [7]) (by kernel_rfl) (by simp) ?_
          refine AllReadyH.cons rfl (fun K hK => ?_) AllReadyH.nil
          go_simp
          refine hK.out _ _ (hHeld.turned T hab hDV hbB) (fun hHeld => ?_)
          clear hK K
          try simp only [Act.put]
          try simp only [List.setIfInBounds_toArray]
          try simp only [List.set]
          refine wpAnyH_done (by kernel_rfl) ?_ _
          have b3 : E2 ((U4.setCell ⟨ab, 0, none⟩ (.int .i64 Q)).setCell ⟨ab, 1, none⟩ (.slice a3 ln c3)) ab Q (.slice a3 ln c3) := ⟨by simp [go_sem, a0], by simp [go_sem, a1]⟩
          have r3 := HO3.out _ T
          go_wp2_with fail
          go_meet
          case rel => exact ⟨ab, a3, c3, rfl, hHeld.g, b3, r3⟩
        · have gg : Below U2.heap.size U2 (U2.alloc (.cells #[.int .i64 0, .slice none 0 0] 57)) := by go_grown
          have hab : w3.heap.size ≤ U2.heap.size := hDV
          have hB : Nr2 (U2.alloc (.cells #[.int .i64 0, .slice none 0 0] 57)) U2.heap.size := ⟨by simp [go_sem], by simp [go_sem], by simp [go_sem], by simp [go_sem]⟩
          have hDV : w3.heap.size ≤ (U2.alloc (.cells #[.int .i64 0, .slice none 0 0] 57)).heap.size := Nat.le_trans hDV gg.size
          go_simp
          refine hK.out _ _ (hHeld.up gg) (fun hHeld => ?_)
          clear hK K
          have n1 := n1.below gg (Nat.le_refl _)
          clear gg
          generalize U2.alloc (.cells #[.int .i64 0, .slice none 0 0] 57) = U5 at hHeld hB hDV n1 ⊢
          generalize U2.heap.size = ab at hB hab ⊢
          try simp only [Act.put]
          try simp only [List.setIfInBounds_toArray]
          try simp only [List.set]
          refine wpAnyH_ready (rs := [5]) (by kernel_rfl) (by simp) ?_
          refine AllReadyH.cons rfl (fun K hK => ?_) AllReadyH.nil
          have hlt3 := hB.lt
          go_simp
          go_wp2_with (go_at_call 26; refine (HNote.out _ _ n1).mono ?_; rintro e U6 ⟨a3, c3, rfl, gg, o3⟩)
          refine hK.out _ _ (hHeld.up gg) (fun hHeld => ?_)
          clear hK K
          have hB := hB.below gg hB.lt
          have HO3 : Hid (∀ S, Turned ab (ab + 1) U6 S → TxRd S a3 L) := fun S hS => (o3.low hS hlt3).rd.rd
          clear o3 hlt3
          have hDV' : w3.heap.size ≤ U6.heap.size := Nat.le_trans hDV gg.size
          clear gg hDV
          have hDV := hDV'
          clear hDV'
          clear n1
          try simp only [Act.put]
          try simp only [List.setIfInBounds_toArray]
          try simp only [List.set]
          have T : Turned ab (ab + 1) U6 ((U6.setCell ⟨ab, 0, none⟩ (.int .i64 Q)).setCell ⟨ab, 1, none⟩ (.slice a3 ln c3)) := ((Turned.refl _ _ U6).setCell (p := ⟨ab, 0, none⟩) (Nat.le_refl _) (Nat.lt_succ_self _) _).setCell (p := ⟨ab, 1, none⟩) (Nat.le_refl _) (Nat.lt_succ_self _) _
          obtain ⟨a0, a1, f0, f1⟩ := hB
          refine wpAnyH_ready (rs := [7]) (by kernel_rfl) (by simp) ?_
          refine AllReadyH.cons rfl (fun K hK => ?_) AllReadyH.nil
          go_simp
          refine hK.out _ _ (hHeld.turned T hab hDV hbB) (fun hHeld => ?_)
          clear hK K
          try simp only [Act.put]
          try simp only [List.setIfInBounds_toArray]
          try simp only [List.set]
          refine wpAnyH_done (by kernel_rfl) ?_ _
          have b3 : E2 ((U6.setCell ⟨ab, 0, none⟩ (.int .i64 Q)).setCell ⟨ab, 1, none⟩ (.slice a3 ln c3)) ab Q (.slice a3 ln c3) := ⟨by simp [go_sem, a0], by simp [go_sem, a1]⟩
          have r3 := HO3.out _ T
          go_wp2_with fail
          go_meet
          case rel => exact ⟨ab, a3, c3, rfl, hHeld.g, b3, r3⟩
      · have gg : Below U1.heap.size U1 (U1.alloc (.cells #[.int .i64 0, .slice none 0 0] 57)) := by go_grown
        have hab : w3.heap.size ≤ U1.heap.size := hDV
        have hB : Nr2 (U1.alloc (.cells #[.int .i64 0, .slice none 0 0] 57)) U1.heap.size := ⟨by simp [go_sem], by simp [go_sem], by simp [go_sem], by simp [go_sem]⟩
        have hDV : w3.heap.size ≤ (U1.alloc (.cells #[.int .i64 0, .slice none 0 0] 57)).heap.size := Nat.le_trans hDV gg.size
        go_simp
        refine hK.out _ _ (hHeld.up gg) (fun hHeld => ?_)
        clear hK K
        have n1 := n1.below gg (Nat.le_refl _)
        clear gg
        generalize U1.alloc (.cells #[.int .i64 0, .slice none 0 0] 57) = U7 at hHeld hB hDV n1 ⊢
        generalize U1.heap.size = ab at hB hab ⊢
        try simp only [Act.put]
        try simp only [List.setIfInBounds_toArray]
        try simp only [List.set]
        refine wpAnyH_ready (rs := [4]) (by kernel_rfl) (by simp) ?_
        refine AllReadyH.cons rfl (fun K hK => ?_) AllReadyH.nil
        go_simp
        go_wp2_with (go_at_call 27; refine (HTc.out _).mono ?_; rintro e U8 ⟨rfl, gg⟩)
        refine hK.out _ _ (hHeld.up gg) (fun hHeld => ?_)
        clear hK K
        have n1 := n1.below gg (Nat.le_refl _)
        have hB := hB.below gg hB.lt
        have hDV' : w3.heap.size ≤ U8.heap.size := Nat.le_trans hDV gg.size
        clear gg hDV
        have hDV := hDV'
        clear hDV'
        try simp only [Act.put]
        try simp only [List.setIfInBounds_toArray]
        try simp only [List.set]
        refine wpAnyH_ready (rs := [5]) (by kernel_rfl) (by simp) ?_
        refine AllReadyH.cons rfl (fun K hK => ?_) AllReadyH.nil
        have hlt3 := hB.lt
        go_simp
        go_wp2_with (go_at_call 26; refine (HNote.out _ _ n1).mono ?_; rintro e U9 ⟨a3, c3, rfl, gg, o3⟩)
        refine hK.out _ _ (hHeld.up gg) (fun hHeld => ?_)
        clear hK K
        have hB := hB.below gg hB.lt
        have HO3 : Hid (∀ S, Turned ab (ab + 1) U9 S → TxRd S a3 L) := fun S hS => (o3.low hS hlt3).rd.rd
        clear o3 hlt3
        have hDV' : w3.heap.size ≤ U9.heap.size := Nat.le_trans hDV gg.size
        clear gg hDV
        have hDV := hDV'
        clear hDV'
        clear n1
        try simp only [Act.put]
        try simp only [List.setIfInBounds_toArray]
        try simp only [List.set]
        have T : Turned ab (ab + 1) U9 ((U9.setCell ⟨ab, 0, none⟩ (.int .i64 Q)).setCell ⟨ab, 1, none⟩ (.slice a3 ln c3)) := ((Turned.refl _ _ U9).setCell (p := ⟨ab, 0, none⟩) (Nat.le_refl _) (Nat.lt_succ_self _) _).setCell (p := ⟨ab, 1, none⟩) (Nat.le_refl _) (Nat.lt_succ_self _) _
        obtain ⟨a0, a1, f0, f1⟩ := hB
        refine wpAnyH_ready (rs := [7]) (by kernel_rfl) (by simp) ?_
        refine AllReadyH.cons rfl (fun K hK => ?_) AllReadyH.nil
        go_simp
        refine hK.out _ _ (hHeld.turned T hab hDV hbB) (fun hHeld => ?_)
        clear hK K
        try simp only [Act.put]
        try simp only [List.setIfInBounds_toArray]
        try simp only [List.set]
        refine wpAnyH_done (by kernel_rfl) ?_ _
        have b3 : E2 ((U9.setCell ⟨ab, 0, none⟩ (.int .i64 Q)).setCell ⟨ab, 1, none⟩ (.slice a3 ln c3)) ab Q (.slice a3 ln c3) := ⟨by simp [go_sem, a0], by simp [go_sem, a1]⟩
        have r3 := HO3.out _ T
        go_wp2_with fail
        go_meet
        case rel => exact ⟨ab, a3, c3, rfl, hHeld.g, b3, r3⟩
    · have gg : Below D0.heap.size D0 (D0.alloc (.cells #[.int .i64 0, .slice none 0 0] 57)) := by go_grown
      have hab : w3.heap.size ≤ D0.heap.size := hDV
      have hB : Nr2 (D0.alloc (.cells #[.int .i64 0, .slice none 0 0] 57)) D0.heap.size := ⟨by simp [go_sem], by simp [go_sem], by simp [go_sem], by simp [go_sem]⟩
      have hDV : w3.heap.size ≤ (D0.alloc (.cells #[.int .i64 0, .slice none 0 0] 57)).heap.size := Nat.le_trans hDV gg.size
      go_simp
      refine hK.out _ _ (hHeld.up gg) (fun hHeld => ?_)
      clear hK K
      clear gg
      generalize D0.alloc (.cells #[.int .i64 0, .slice none 0 0] 57) = U10 at hHeld hB hDV ⊢
      generalize D0.heap.size = ab at hB hab ⊢
      try simp only [Act.put]
      try simp only [List.setIfInBounds_toArray]
      try simp only [List.set]
      refine wpAnyH_ready (rs := [1]) (by kernel_rfl) (by simp) ?_
      refine AllReadyH.cons rfl (fun K hK => ?_) AllReadyH.nil
      go_simp
      go_wp2_with (go_at_call 20; refine (HT.out _ hHeld.g).mono ?_; rintro e U11 ⟨rfl, gg, n1⟩)
      refine hK.out _ _ (hHeld.up gg) (fun hHeld => ?_)
      clear hK K
      have hB := hB.below gg hB.lt
      have hDV' : w3.heap.size ≤ U11.heap.size := Nat.le_trans hDV gg.size
      clear gg hDV
      have hDV := hDV'
      clear hDV'
      generalize U10.heap.size = lb at n1 ⊢
      try simp only [Act.put]
      try simp only [List.setIfInBounds_toArray]
      try simp only [List.set]
      refine wpAnyH_ready (rs := [4]) (by kernel_rfl) (by simp) ?_
      refine AllReadyH.cons rfl (fun K hK => ?_) AllReadyH.nil
      go_simp
      go_wp2_with (go_at_call 27; refine (HTc.out _).mono ?_; rintro e U12 ⟨rfl, gg⟩)
      refine hK.out _ _ (hHeld.up gg) (fun hHeld => ?_)
      clear hK K
      have n1 := n1.below gg (Nat.le_refl _)
      have hB := hB.below gg hB.lt
      have hDV' : w3.heap.size ≤ U12.heap.size := Nat.le_trans hDV gg.size
      clear gg hDV
      have hDV := hDV'
      clear hDV'
      try simp only [Act.put]
      try simp only [List.setIfInBounds_toArray]
      try simp only [List.set]
      refine wpAnyH_ready (rs := [5]) (by kernel_rfl) (by simp) ?_
      refine AllReadyH.cons rfl (fun K hK => ?_) AllReadyH.nil
      have hlt3 := hB.lt
      go_simp
      go_wp2_with (go_at_call 26; refine (HNote.out _ _ n1).mono ?_; rintro e U13 ⟨a3, c3, rfl, gg, o3⟩)
      refine hK.out _ _ (hHeld.up gg) (fun hHeld => ?_)
      clear hK K
      have hB := hB.below gg hB.lt
      have HO3 : Hid (∀ S, Turned ab (ab + 1) U13 S → TxRd S a3 L) := fun S hS => (o3.low hS hlt3).rd.rd
      clear o3 hlt3
      have hDV' : w3.heap.size ≤ U13.heap.size := Nat.le_trans hDV gg.size
      clear gg hDV
      have hDV := hDV'
      clear hDV'
      clear n1
      try simp only [Act.put]
      try simp only [List.setIfInBounds_toArray]
      try simp only [List.set]
      have T : Turned ab (ab + 1) U13 ((U13.setCell ⟨ab, 0, none⟩ (.int .i64 Q)).setCell ⟨ab, 1, none⟩ (.slice a3 ln c3)) := ((Turned.refl _ _ U13).setCell (p := ⟨ab, 0, none⟩) (Nat.le_refl _) (Nat.lt_succ_self _) _).setCell (p := ⟨ab, 1, none⟩) (Nat.le_refl _) (Nat.lt_succ_self _) _
      obtain ⟨a0, a1, f0, f1⟩ := hB
      refine wpAnyH_ready (rs := [7]) (by kernel_rfl) (by simp) ?_
      refine AllReadyH.cons rfl (fun K hK => ?_) AllReadyH.nil
      go_simp
      refine hK.out _ _ (hHeld.turned T hab hDV hbB) (fun hHeld => ?_)
      clear hK K
      try simp only [Act.put]
      try simp only [List.setIfInBounds_toArray]
      try simp only [List.set]
      refine wpAnyH_done (by kernel_rfl) ?_ _
      have b3 : E2 ((U13.setCell ⟨ab, 0, none⟩ (.int .i64 Q)).setCell ⟨ab, 1, none⟩ (.slice a3 ln c3)) ab Q (.slice a3 ln c3) := ⟨by simp [go_sem, a0], by simp [go_sem, a1]⟩
      have r3 := HO3.out _ T
      go_wp2_with fail
      go_meet
      case rel => exact ⟨ab, a3, c3, rfl, hHeld.g, b3, r3⟩
  case rest =>
    obtain ⟨b3, a3, c3, rfl, g3, C3, R3⟩ := hcut
    have g := gB.trans (g3.mono gB.size)
    clear gB hbB HSpec g3
    have HC3 : Hid (∀ V, Below wc.heap.size wc V → E2 V b3 Q (.slice a3 ln c3) ∧ TxRd V a3 L) := fun V hV => ⟨C3.below hV C3.lt, R3.below hV (Nat.le_refl _)⟩
    clear C3 R3
    have hyb : Y.heap.size ≤ wc.heap.size := g.size
    go_wp2_with fail
    refine (HTo.out _ g).mono ?_
    rintro e w4 ⟨rfl, g4, lo, hi, o4, hb4⟩
    have g := g.trans (g4.mono g.size)
    have hT4 : 0 < n → wc.heap.size < w4.heap.size := fun h => by
      obtain ⟨_, _, _, _, _, _, h4, _⟩ := o4.c 0 _ (List.getElem?_eq_getElem (by rw [HN.out]; exact h))
      exact h4.lt
    have HX : Hid (∀ V, Below w4.heap.size w4 V → TxRc V (some ⟨wc.heap.size, 0, none⟩) xs) := fun V hV => o4.rc.below hV (Nat.le_refl _)
    have HMk : Hid (∀ V, Below w4.heap.size w4 V → Calls Try.prog 30 #[.slice (some ⟨wc.heap.size, 0, none⟩) n n, .int .i64 1] V fun e w' => e = .returned (.int .i64 k1) ∧ Turned wc.heap.size w4.heap.size V w') := fun V hV => by
      have h := markTxS_own wc.heap.size lo hi wc.heap.size xs n n 1 V HN.out hn HS.out (Nat.le_refl _) (by have := HCS.out; omega) (Nat.le_trans g4.size hV.size) (Nat.le_refl _) (fun p hp => Nat.le_of_lt (hb4 p hp).1) w4.heap.size hT4 (fun p hp => (hb4 p hp).2) (o4.below hV)
      rw [HK1.out] at h
      exact h.mono fun e w' h => ⟨h.1, h.2.1⟩
    have hle4 : wc.heap.size ≤ w4.heap.size := g4.size
    have K : Kee Y wc wc.heap.size w4 := ⟨g, g4, g4.size, hyb⟩
    clear o4 hb4 hT4 HTo g
    generalize wc.heap.size = b4 at HC3 HX HMk K g4 hle4 hyb ⊢
    clear g4
    have q4 : Below w4.heap.size w4 w4 := Below.refl _ _
    obtain ⟨z0, z1, z2, z3, z4, z5, z6, z7, z8, z9⟩ := HK.out _ K.g
    dsimp only at z0 z1 z2 z3 z4 z5 z6 z7 z8 z9
    go_wp2_with fail
    refine (HTc.out _).mono ?_
    rintro e w5 ⟨rfl, g5⟩
    have K := K.step g5
    have q4 := q4.trans (g5.mono q4.size)
    clear z0 z1 z2 z3 z4 z5 z6 z7 z8 z9 g5
    have hX5 := HX.out _ q4
    have hcon := HImpl.out _ _ hX5
    have hB5 : w4.heap.size ≤ w5.heap.size := q4.size
    clear hX5
    go_wp2_with fail
    refine hcon.mono ?_
    rintro e w6 ⟨a5, c5, rfl, g6, o5⟩
    have K := K.step g6
    have q4 := q4.trans (g6.mono q4.size)
    have h56 : w5.heap.size ≤ w6.heap.size := g6.size
    clear hcon g6
    go_upto_region 11 with (fail)
    generalize hY : World.alloc _ _ = Y7
    have g7 : Below w6.heap.size w6 Y7 := by rw [← hY]; go_grown
    have C7 : E2 Y7 w6.heap.size Q (.slice a5 ln c5) := by rw [← hY]; exact ⟨by simp [go_sem], by simp [go_sem]⟩
    have G : G0s w6.heap.size w5.heap.size Q a5 ln c5 L Y7 := ⟨C7, OwZ.below o5 g7⟩
    have K := K.step g7
    have q4 := q4.trans (g7.mono q4.size)
    clear g7 hY C7 o5
    generalize w6.heap.size = b7 at G h56 ⊢
    generalize w5.heap.size = B5 at G h56 hB5
    obtain ⟨y0, y1⟩ := G.c
    obtain ⟨⟨p0, p1⟩, R3⟩ := HC3.out _ K.W
    have hcon := HEq.out _ _ _ c5 c3 G.o.rd.rd R3
    go_wp2_with fail
    refine hcon.mono ?_
    rintro e w8 ⟨rfl, g8⟩
    have K := K.step g8
    have G := G.step g8
    have q4 := q4.trans (g8.mono q4.size)
    clear hcon g8 y0 y1 p0 p1 R3
    have hcon := HTr.out _ K.g
    go_wp2_with fail
    refine hcon.mono ?_
    rintro e w9 ⟨rfl, g9, o9⟩
    have K := K.step g9
    have G := G.step g9
    have q4 := q4.trans (g9.mono q4.size)
    clear hcon g9
    generalize w8.heap.size = b9 at o9 ⊢
    have hcon := eqTxS_same _ _ xs n n n w9 HN.out HS.out (by omega) (HX.out _ q4).rd o9.rd
    go_wp2_with fail
    refine hcon.mono ?_
    rintro e w10 ⟨rfl, g10⟩
    have K := K.step g10
    have G := G.step g10
    have q4 := q4.trans (g10.mono q4.size)
    clear hcon g10 o9
    have hcon := HMk.out _ q4
    go_wp2_with fail
    refine hcon.mono ?_
    rintro e w11 ⟨rfl, t11⟩
    have K := K.turned t11 (Nat.le_refl _)
    have G := G.turned t11 hB5 (Nat.le_trans hB5 h56)
    clear hcon t11 q4 HX HMk
    obtain ⟨y0, y1⟩ := G.c
    obtain ⟨⟨p0, p1⟩, R3⟩ := HC3.out _ K.W
    have hcon := HEq.out _ _ _ c5 c3 G.o.rd.rd R3
    go_wp2_with fail
    refine hcon.mono ?_
    rintro e w12 ⟨rfl, g12⟩
    have K := K.step g12
    have G := G.step g12
    clear hcon g12 y0 y1 p0 p1 R3
    obtain ⟨y0, y1⟩ := G.c
    have hcon := HMr.out w12 a5 c5 B5 b7 (Nat.le_trans h56 (Nat.le_of_lt G.c.lt)) G.o
    go_wp2_with fail
    refine hcon.mono ?_
    rintro e w13 ⟨rfl, t13, o13⟩
    have K := K.turned t13 (Nat.le_trans hle4 hB5)
    have C13 : E2 w13 b7 Q (.slice a5 ln c5) := ⟨t13.cell G.c.c0 (.inr (Nat.le_refl _)), t13.cell G.c.c1 (.inr (Nat.le_refl _))⟩
    have HM0 : Hid (∀ V, Below w13.heap.size w13 V → E2 V b7 Q (.slice a5 ln c5) ∧ TxRd V a5 (mkTs 1 L)) := fun V hV => ⟨C13.below hV C13.lt, o13.rd.rd.below hV (Nat.le_refl _)⟩
    have q13 : Below w13.heap.size w13 w13 := Below.refl _ _
    clear hcon t13 o13 C13 G y0 y1 HMr
    obtain ⟨⟨y0, y1⟩, R5⟩ := HM0.out _ q13
    have hcon := HHe.out _ _ c5 R5
    go_wp2_with fail
    refine hcon.mono ?_
    rintro e w14 ⟨rfl, g14⟩
    have K := K.step g14
    have q13 := q13.trans (g14.mono q13.size)
    clear hcon g14 y0 y1 R5
    go_upto_region 27 with (fail)
    have g := K.g
    have hbB : bx < w14.heap.size := Nat.lt_of_lt_of_le hbY g.size
    go_cut [14] from 15 (fun s14 wc => ∃ (ab : Nat) (a3 : Option Addr) (c3 : Nat), s14 = .pointer (some ⟨ab, 0, none⟩) ∧ Below w14.heap.size w14 wc ∧ E2 wc ab Q (.slice a3 ln c3) ∧ TxRd wc a3 L)
    case first =>
      clear HEq HHe HC3 HM0 K q13
      have H : LnS w14 bx (⟨x0, ⟨xt, xk, xv, xst⟩, x5, ⟨yt, yk, yv, yst⟩⟩ : Chg) w14.drew := ⟨HK.out _ (g.trans ((Below.refl _ w14).drew.mono g.size)), (Below.refl _ w14).drew⟩
      refine wp_region_held_drew (S := LnS w14 bx (⟨x0, ⟨xt, xk, xv, xst⟩, x5, ⟨yt, yk, yv, yst⟩⟩ : Chg)) (by kernel_rfl) H (fun hHeld => ?_)
      have hDV : w14.heap.size ≤ w14.drew.heap.size := Nat.le_refl _
      generalize w14.drew = D0 at hHeld hDV ⊢
      clear H
      have HT : Hid (∀ V, Below w14.heap.size w14 V → Calls Try.prog 20 #[.slice a n c] V fun e w' => e = .returned (.slice (some ⟨V.heap.size, 0, none⟩) n n) ∧ Below V.heap.size V w' ∧ TxRc w' (some ⟨V.heap.size, 0, none⟩) xs) := fun V hV => HTr.out V (g.trans (hV.mono g.size))
      have HNote := HImpl
      clear g
      refine wpAnyH_take (i := 0) (v := ?v4) rfl (by kernel_rfl) (by kernel_rfl) (by kernel_rfl) (fun _ _ _ h => h) (Or.inl ⟨by kernel_rfl, ?h4⟩) hHeld ?_
      case h4 => intro u hSw; clear hSw; go_simp; try with_reducible rfl
      try simp only [List.getElem_toArray]
      try simp only [List.getElem_cons_succ]
      try simp only [List.getElem_cons_zero]
      try simp only [Act.put]
      try simp only [List.setIfInBounds_toArray]
      try simp only [List.set]
      refine wpAnyH_take (i := 2) (v := ?v5) rfl (by kernel_rfl) (by kernel_rfl) (by kernel_rfl) (fun _ _ _ h => h) (Or.inl ⟨by kernel_rfl, ?h5⟩) hHeld ?_
      case h5 => intro u hSw; clear hSw; go_simp; try with_reducible rfl
      try simp only [List.getElem_toArray]
      try simp only [List.getElem_cons_succ]
      try simp only [List.getElem_cons_zero]
      try simp only [Act.put]
      try simp only [List.setIfInBounds_toArray]
      try simp only [List.set]
      refine wpAnyH_take (i := 3) (v := ?v6) rfl (by kernel_rfl) (by kernel_rfl) (by kernel_rfl) (fun _ _ _ h => h) (Or.inl ⟨by kernel_rfl, ?h6⟩) hHeld ?_
      case h6 => intro u hSw; (obtain ⟨z0, z1, z2, z3, z4, z5, z6, z7, z8, z9⟩ := hSw.c); (dsimp only at z0 z1 z2 z3 z4 z5 z6 z7 z8 z9); clear hSw; go_simp; try with_reducible rfl
      try simp only [List.getElem_toArray]
      try simp only [List.getElem_cons_succ]
      try simp only [List.getElem_cons_zero]
      try simp only [Act.put]
      try simp only [List.setIfInBounds_toArray]
      try simp only [List.set]
      refine wpAnyH_ready (rs := [1, 6]) (by kernel_rfl) (by simp) ?_
      refine AllReadyH.cons rfl (fun K hK => ?_) (AllReadyH.cons rfl (fun K hK => ?_) AllReadyH.nil)
      · go_simp
        go_wp2_with (go_at_call 20; refine (HT.out _ hHeld.g).mono ?_; rintro e U14 ⟨rfl, gg, n1⟩)
        refine hK.out _ _ (hHeld.up gg) (fun hHeld => ?_)
        clear hK K
        have hDV' : w14.heap.size ≤ U14.heap.size := Nat.le_trans hDV gg.size
        clear gg hDV
        have hDV := hDV'
        clear hDV'
        generalize D0.heap.size = lb at n1 ⊢
        try simp only [Act.put]
        try simp only [List.setIfInBounds_toArray]
        try simp only [List.set]
        refine wpAnyH_ready (rs := [4, 6]) (by kernel_rfl) (by simp) ?_
        refine AllReadyH.cons rfl (fun K hK => ?_) (AllReadyH.cons rfl (fun K hK => ?_) AllReadyH.nil)
        · go_simp
          go_wp2_with (go_at_call 27; refine (HTc.out _).mono ?_; rintro e U15 ⟨rfl, gg⟩)
          refine hK.out _ _ (hHeld.up gg) (fun hHeld => ?_)
          clear hK K
          have n1 := n1.below gg (Nat.le_refl _)
          have hDV' : w14.heap.size ≤ U15.heap.size := Nat.le_trans hDV gg.size
          clear gg hDV
          have hDV := hDV'
          clear hDV'
          try simp only [Act.put]
          try simp only [List.setIfInBounds_toArray]
          try simp only [List.set]
          refine wpAnyH_ready (rs := [5, 6]) (by kernel_rfl) (by simp) ?_
          refine AllReadyH.cons rfl (fun K hK => ?_) (AllReadyH.cons rfl (fun K hK => ?_) AllReadyH.nil)
          · go_simp
            go_wp2_with (go_at_call 28; refine (HNote.out _ _ n1).mono ?_; rintro e U16 ⟨a3, c3, rfl, gg, o3⟩)
            refine hK.out _ _ (hHeld.up gg) (fun hHeld => ?_)
            clear hK K
            have o3 : TxRd U16 a3 L := o3.rd.rd
            have hDV' : w14.heap.size ≤ U16.heap.size := Nat.le_trans hDV gg.size
            clear gg hDV
            have hDV := hDV'
            clear hDV'
            clear n1
            try simp only [Act.put]
            try simp only [List.setIfInBounds_toArray]
            try simp only [List.set]
            refine wpAnyH_ready (rs := [6]) (by kernel_rfl) (by simp) ?_
            refine AllReadyH.cons rfl (fun K hK => ?_) AllReadyH.nil
            have gg : Below U16.heap.size U16 (U16.alloc (.cells #[.int .i64 0, .slice none 0 0] 57)) := by go_grown
            have hab : w14.heap.size ≤ U16.heap.size := hDV
            have hB : Nr2 (U16.alloc (.cells #[.int .i64 0, .slice none 0 0] 57)) U16.heap.size := ⟨by simp [go_sem], by simp [go_sem], by simp [go_sem], by simp [go_sem]⟩
            have hDV : w14.heap.size ≤ (U16.alloc (.cells #[.int .i64 0, .slice none 0 0] 57)).heap.size := Nat.le_trans hDV gg.size
            have HO3 : Hid (∀ S, Turned U16.heap.size (U16.heap.size + 1) (U16.alloc (.cells #[.int .i64 0, .slice none 0 0] 57)) S → TxRd S a3 L) := fun S hS => o3.below (gg.trans (hS.toBelow gg.size (Nat.le_refl _))) (Nat.le_refl _)
            go_simp
            refine hK.out _ _ (hHeld.up gg) (fun hHeld => ?_)
            clear hK K
            clear o3
            clear gg
            generalize U16.alloc (.cells #[.int .i64 0, .slice none 0 0] 57) = U17 at hHeld hB hDV HO3 ⊢
            generalize U16.heap.size = ab at hB hab HO3 ⊢
            try simp only [Act.put]
            try simp only [List.setIfInBounds_toArray]
            try simp only [List.set]
            have T : Turned ab (ab + 1) U17 ((U17.setCell ⟨ab, 0, none⟩ (.int .i64 Q)).setCell ⟨ab, 1, none⟩ (.slice a3 ln c3)) := ((Turned.refl _ _ U17).setCell (p := ⟨ab, 0, none⟩) (Nat.le_refl _) (Nat.lt_succ_self _) _).setCell (p := ⟨ab, 1, none⟩) (Nat.le_refl _) (Nat.lt_succ_self _) _
            obtain ⟨a0, a1, f0, f1⟩ := hB
            refine wpAnyH_ready (rs := [7]) (by kernel_rfl) (by simp) ?_
            refine AllReadyH.cons rfl (fun K hK => ?_) AllReadyH.nil
            go_simp
            refine hK.out _ _ (hHeld.turned T hab hDV hbB) (fun hHeld => ?_)
            clear hK K
            try simp only [Act.put]
            try simp only [List.setIfInBounds_toArray]
            try simp only [List.set]
            refine wpAnyH_done (by kernel_rfl) ?_ _
            have b3 : E2 ((U17.setCell ⟨ab, 0, none⟩ (.int .i64 Q)).setCell ⟨ab, 1, none⟩ (.slice a3 ln c3)) ab Q (.slice a3 ln c3) := ⟨by simp [go_sem, a0], by simp [go_sem, a1]⟩
            have r3 := HO3.out _ T
            go_wp2_with fail
            go_meet
            case rel => exact ⟨ab, a3, c3, rfl, hHeld.g, b3, r3⟩
          · have gg : Below U15.heap.size U15 (U15.alloc (.cells #[.int .i64 0, .slice none 0 0] 57)) := by go_grown
            have hab : w14.heap.size ≤ U15.heap.size := hDV
            have hB : Nr2 (U15.alloc (.cells #[.int .i64 0, .slice none 0 0] 57)) U15.heap.size := ⟨by simp [go_sem], by simp [go_sem], by simp [go_sem], by simp [go_sem]⟩
            have hDV : w14.heap.size ≤ (U15.alloc (.cells #[.int .i64 0, .slice none 0 0] 57)).heap.size := Nat.le_trans hDV gg.size
            go_simp
            refine hK.out _ _ (hHeld.up gg) (fun hHeld => ?_)
            clear hK K
            have n1 := n1.below gg (Nat.le_refl _)
            clear gg
            generalize U15.alloc (.cells #[.int .i64 0, .slice none 0 0] 57) = U18 at hHeld hB hDV n1 ⊢
            generalize U15.heap.size = ab at hB hab ⊢
            try simp only [Act.put]
            try simp only [List.setIfInBounds_toArray]
            try simp only [List.set]
            refine wpAnyH_ready (rs := [5]) (by kernel_rfl) (by simp) ?_
            refine AllReadyH.cons rfl (fun K hK => ?_) AllReadyH.nil
            have hlt3 := hB.lt
            go_simp
            go_wp2_with (go_at_call 28; refine (HNote.out _ _ n1).mono ?_; rintro e U19 ⟨a3, c3, rfl, gg, o3⟩)
            refine hK.out _ _ (hHeld.up gg) (fun hHeld => ?_)
            clear hK K
            have hB := hB.below gg hB.lt
            have HO3 : Hid (∀ S, Turned ab (ab + 1) U19 S → TxRd S a3 L) := fun S hS => (o3.low hS hlt3).rd.rd
            clear o3 hlt3
            have hDV' : w14.heap.size ≤ U19.heap.size := Nat.le_trans hDV gg.size
            clear gg hDV
            have hDV := hDV'
            clear hDV'
            clear n1
            try simp only [Act.put]
            try simp only [List.setIfInBounds_toArray]
            try simp only [List.set]
            have T : Turned ab (ab + 1) U19 ((U19.setCell ⟨ab, 0, none⟩ (.int .i64 Q)).setCell ⟨ab, 1, none⟩ (.slice a3 ln c3)) := ((Turned.refl _ _ U19).setCell (p := ⟨ab, 0, none⟩) (Nat.le_refl _) (Nat.lt_succ_self _) _).setCell (p := ⟨ab, 1, none⟩) (Nat.le_refl _) (Nat.lt_succ_self _) _
            obtain ⟨a0, a1, f0, f1⟩ := hB
            refine wpAnyH_ready (rs := [7]) (by kernel_rfl) (by simp) ?_
            refine AllReadyH.cons rfl (fun K hK => ?_) AllReadyH.nil
            go_simp
            refine hK.out _ _ (hHeld.turned T hab hDV hbB) (fun hHeld => ?_)
            clear hK K
            try simp only [Act.put]
            try simp only [List.setIfInBounds_toArray]
            try simp only [List.set]
            refine wpAnyH_done (by kernel_rfl) ?_ _
            have b3 : E2 ((U19.setCell ⟨ab, 0, none⟩ (.int .i64 Q)).setCell ⟨ab, 1, none⟩ (.slice a3 ln c3)) ab Q (.slice a3 ln c3) := ⟨by simp [go_sem, a0], by simp [go_sem, a1]⟩
            have r3 := HO3.out _ T
            go_wp2_with fail
            go_meet
            case rel => exact ⟨ab, a3, c3, rfl, hHeld.g, b3, r3⟩
        · have gg : Below U14.heap.size U14 (U14.alloc (.cells #[.int .i64 0, .slice none 0 0] 57)) := by go_grown
          have hab : w14.heap.size ≤ U14.heap.size := hDV
          have hB : Nr2 (U14.alloc (.cells #[.int .i64 0, .slice none 0 0] 57)) U14.heap.size := ⟨by simp [go_sem], by simp [go_sem], by simp [go_sem], by simp [go_sem]⟩
          have hDV : w14.heap.size ≤ (U14.alloc (.cells #[.int .i64 0, .slice none 0 0] 57)).heap.size := Nat.le_trans hDV gg.size
          go_simp
          refine hK.out _ _ (hHeld.up gg) (fun hHeld => ?_)
          clear hK K
          have n1 := n1.below gg (Nat.le_refl _)
          clear gg
          generalize U14.alloc (.cells #[.int .i64 0, .slice none 0 0] 57) = U20 at hHeld hB hDV n1 ⊢
          generalize U14.heap.size = ab at hB hab ⊢
          try simp only [Act.put]
          try simp only [List.setIfInBounds_toArray]
          try simp only [List.set]
          refine wpAnyH_ready (rs := [4]) (by kernel_rfl) (by simp) ?_
          refine AllReadyH.cons rfl (fun K hK => ?_) AllReadyH.nil
          go_simp
          go_wp2_with (go_at_call 27; refine (HTc.out _).mono ?_; rintro e U21 ⟨rfl, gg⟩)
          refine hK.out _ _ (hHeld.up gg) (fun hHeld => ?_)
          clear hK K
          have n1 := n1.below gg (Nat.le_refl _)
          have hB := hB.below gg hB.lt
          have hDV' : w14.heap.size ≤ U21.heap.size := Nat.le_trans hDV gg.size
          clear gg hDV
          have hDV := hDV'
          clear hDV'
          try simp only [Act.put]
          try simp only [List.setIfInBounds_toArray]
          try simp only [List.set]
          refine wpAnyH_ready (rs := [5]) (by kernel_rfl) (by simp) ?_
          refine AllReadyH.cons rfl (fun K hK => ?_) AllReadyH.nil
          have hlt3 := hB.lt
          go_simp
          go_wp2_with (go_at_call 28; refine (HNote.out _ _ n1).mono ?_; rintro e U22 ⟨a3, c3, rfl, gg, o3⟩)
          refine hK.out _ _ (hHeld.up gg) (fun hHeld => ?_)
          clear hK K
          have hB := hB.below gg hB.lt
          have HO3 : Hid (∀ S, Turned ab (ab + 1) U22 S → TxRd S a3 L) := fun S hS => (o3.low hS hlt3).rd.rd
          clear o3 hlt3
          have hDV' : w14.heap.size ≤ U22.heap.size := Nat.le_trans hDV gg.size
          clear gg hDV
          have hDV := hDV'
          clear hDV'
          clear n1
          try simp only [Act.put]
          try simp only [List.setIfInBounds_toArray]
          try simp only [List.set]
          have T : Turned ab (ab + 1) U22 ((U22.setCell ⟨ab, 0, none⟩ (.int .i64 Q)).setCell ⟨ab, 1, none⟩ (.slice a3 ln c3)) := ((Turned.refl _ _ U22).setCell (p := ⟨ab, 0, none⟩) (Nat.le_refl _) (Nat.lt_succ_self _) _).setCell (p := ⟨ab, 1, none⟩) (Nat.le_refl _) (Nat.lt_succ_self _) _
          obtain ⟨a0, a1, f0, f1⟩ := hB
          refine wpAnyH_ready (rs := [7]) (by kernel_rfl) (by simp) ?_
          refine AllReadyH.cons rfl (fun K hK => ?_) AllReadyH.nil
          go_simp
          refine hK.out _ _ (hHeld.turned T hab hDV hbB) (fun hHeld => ?_)
          clear hK K
          try simp only [Act.put]
          try simp only [List.setIfInBounds_toArray]
          try simp only [List.set]
          refine wpAnyH_done (by kernel_rfl) ?_ _
          have b3 : E2 ((U22.setCell ⟨ab, 0, none⟩ (.int .i64 Q)).setCell ⟨ab, 1, none⟩ (.slice a3 ln c3)) ab Q (.slice a3 ln c3) := ⟨by simp [go_sem, a0], by simp [go_sem, a1]⟩
          have r3 := HO3.out _ T
          go_wp2_with fail
          go_meet
          case rel => exact ⟨ab, a3, c3, rfl, hHeld.g, b3, r3⟩
      · have gg : Below D0.heap.size D0 (D0.alloc (.cells #[.int .i64 0, .slice none 0 0] 57)) := by go_grown
        have hab : w14.heap.size ≤ D0.heap.size := hDV
        have hB : Nr2 (D0.alloc (.cells #[.int .i64 0, .slice none 0 0] 57)) D0.heap.size := ⟨by simp [go_sem], by simp [go_sem], by simp [go_sem], by simp [go_sem]⟩
        have hDV : w14.heap.size ≤ (D0.alloc (.cells #[.int .i64 0, .slice none 0 0] 57)).heap.size := Nat.le_trans hDV gg.size
        go_simp
        refine hK.out _ _ (hHeld.up gg) (fun hHeld => ?_)
        clear hK K
        clear gg
        generalize D0.alloc (.cells #[.int .i64 0, .slice none 0 0] 57) = U23 at hHeld hB hDV ⊢
        generalize D0.heap.size = ab at hB hab ⊢
        try simp only [Act.put]
        try simp only [List.setIfInBounds_toArray]
        try simp only [List.set]
        refine wpAnyH_ready (rs := [1]) (by kernel_rfl) (by simp) ?_
        refine AllReadyH.cons rfl (fun K hK => ?_) AllReadyH.nil
        go_simp
        go_wp2_with (go_at_call 20; refine (HT.out _ hHeld.g).mono ?_; rintro e U24 ⟨rfl, gg, n1⟩)
        refine hK.out _ _ (hHeld.up gg) (fun hHeld => ?_)
        clear hK K
        have hB := hB.below gg hB.lt
        have hDV' : w14.heap.size ≤ U24.heap.size := Nat.le_trans hDV gg.size
        clear gg hDV
        have hDV := hDV'
        clear hDV'
        generalize U23.heap.size = lb at n1 ⊢
        try simp only [Act.put]
        try simp only [List.setIfInBounds_toArray]
        try simp only [List.set]
        refine wpAnyH_ready (rs := [4]) (by kernel_rfl) (by simp) ?_
        refine AllReadyH.cons rfl (fun K hK => ?_) AllReadyH.nil
        go_simp
        go_wp2_with (go_at_call 27; refine (HTc.out _).mono ?_; rintro e U25 ⟨rfl, gg⟩)
        refine hK.out _ _ (hHeld.up gg) (fun hHeld => ?_)
        clear hK K
        have n1 := n1.below gg (Nat.le_refl _)
        have hB := hB.below gg hB.lt
        have hDV' : w14.heap.size ≤ U25.heap.size := Nat.le_trans hDV gg.size
        clear gg hDV
        have hDV := hDV'
        clear hDV'
        try simp only [Act.put]
        try simp only [List.setIfInBounds_toArray]
        try simp only [List.set]
        refine wpAnyH_ready (rs := [5]) (by kernel_rfl) (by simp) ?_
        refine AllReadyH.cons rfl (fun K hK => ?_) AllReadyH.nil
        have hlt3 := hB.lt
        go_simp
        go_wp2_with (go_at_call 28; refine (HNote.out _ _ n1).mono ?_; rintro e U26 ⟨a3, c3, rfl, gg, o3⟩)
        refine hK.out _ _ (hHeld.up gg) (fun hHeld => ?_)
        clear hK K
        have hB := hB.below gg hB.lt
        have HO3 : Hid (∀ S, Turned ab (ab + 1) U26 S → TxRd S a3 L) := fun S hS => (o3.low hS hlt3).rd.rd
        clear o3 hlt3
        have hDV' : w14.heap.size ≤ U26.heap.size := Nat.le_trans hDV gg.size
        clear gg hDV
        have hDV := hDV'
        clear hDV'
        clear n1
        try simp only [Act.put]
        try simp only [List.setIfInBounds_toArray]
        try simp only [List.set]
        have T : Turned ab (ab + 1) U26 ((U26.setCell ⟨ab, 0, none⟩ (.int .i64 Q)).setCell ⟨ab, 1, none⟩ (.slice a3 ln c3)) := ((Turned.refl _ _ U26).setCell (p := ⟨ab, 0, none⟩) (Nat.le_refl _) (Nat.lt_succ_self _) _).setCell (p := ⟨ab, 1, none⟩) (Nat.le_refl _) (Nat.lt_succ_self _) _
        obtain ⟨a0, a1, f0, f1⟩ := hB
        refine wpAnyH_ready (rs := [7]) (by kernel_rfl) (by simp) ?_
        refine AllReadyH.cons rfl (fun K hK => ?_) AllReadyH.nil
        go_simp
        refine hK.out _ _ (hHeld.turned T hab hDV hbB) (fun hHeld => ?_)
        clear hK K
        try simp only [Act.put]
        try simp only [List.setIfInBounds_toArray]
        try simp only [List.set]
        refine wpAnyH_done (by kernel_rfl) ?_ _
        have b3 : E2 ((U26.setCell ⟨ab, 0, none⟩ (.int .i64 Q)).setCell ⟨ab, 1, none⟩ (.slice a3 ln c3)) ab Q (.slice a3 ln c3) := ⟨by simp [go_sem, a0], by simp [go_sem, a1]⟩
        have r3 := HO3.out _ T
        go_wp2_with fail
        go_meet
        case rel => exact ⟨ab, a3, c3, rfl, hHeld.g, b3, r3⟩
    case rest =>
      obtain ⟨b9, a9, c9, rfl, g15, C9, R9⟩ := hcut
      have K := K.step g15
      have q13 := q13.trans (g15.mono q13.size)
      clear g15 g hbB HImpl
      obtain ⟨y0, y1⟩ := C9
      obtain ⟨⟨p0, p1⟩, R3⟩ := HC3.out _ K.W
      have hcon := HEq.out _ _ _ c9 c3 R9 R3
      go_wp2_with fail
      refine hcon.mono ?_
      rintro e w16 ⟨rfl, g16⟩
      have K := K.step g16
      have q13 := q13.trans (g16.mono q13.size)
      clear hcon g16 y0 y1 p0 p1 R3 R9
      obtain ⟨⟨y0, y1⟩, R5⟩ := HM0.out _ q13
      have hcon := HHe.out _ _ c5 R5
      go_wp2_with fail
      refine hcon.mono ?_
      rintro e w17 ⟨rfl, g17⟩
      have K := K.step g17
      clear hcon g17 y0 y1 R5
      go_wp2_with fail
      go_ret
      exact ⟨rfl, gY.trans (K.g.mono gY.size)⟩

end Go.Proofs.Ytmboclfgldgefaa
