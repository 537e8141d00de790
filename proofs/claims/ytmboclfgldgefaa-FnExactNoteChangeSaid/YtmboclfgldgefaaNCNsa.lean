/-
  The model's l10At and l10Note.
-/
import Derived.Test.YtmboclfgldgefaaNCNcp
import Derived.Test.YtmboclfgldgefaaNCOtm
import Derived.Test.YtmboclfgldgefaaNCLawLO
import Derived.Deep.CutRange

namespace Go.Proofs.Ytmboclfgldgefaa
open Go.RowKit Go.Maps
set_option linter.unusedVariables false
set_option maxRecDepth 20000

set_option maxHeartbeats 4000000 in
theorem l10At_any (a : Option Addr) (xs : List TxV) (n c : Nat) (t : Int) (w : World) (hn : xs.length = n) (hm : n ≤ 1048576) (hr : TxRd w a xs) :
    Calls Try.prog 69 #[.slice a n c, .int .i64 t] w fun e w' => e = .returned (.int .i64 (atI xs t)) ∧ Below w.heap.size w w' := by
  have HN : Hid (xs.length = n) := hn
  have HR : Hid (∀ W, Below w.heap.size w W → TxRd W a xs) := fun W hW => hr.below hW (Nat.le_refl _)
  clear hn hr
  go_enter Try.func69, Try.ntmps69
  go_wp2_with fail
  go_loopw [5] (fun i wr => ∃ j : Nat, j ≤ n ∧ i = .int .i64 j ∧ Below w.heap.size w wr ∧ Hid (∀ x ∈ xs.take j, ((fun i : Int => decide (i = t)) x.id) = false)) (fun i _ => n - (intOf i).toNat)
  case atStart => exact ⟨0, Nat.zero_le _, rfl, Below.refl _ _, by intro x hx; simp at hx⟩
  case round =>
    obtain ⟨j, hj, rfl, gr, hA⟩ := hrel
    by_cases hlt : j < n
    · obtain ⟨x, hx⟩ := at_ltT (xs := xs) (i := j) (by rw [HN.out]; exact hlt)
      obtain ⟨b, off, ua, ma, la, uc, mc, lc, e0, Z⟩ := (HR.out wr gr).at hx
      obtain rfl := e0
      have hjn : (j : Int) < (n : Int) := by omega
      have HX : Hid (xs[j]? = some x) := hx
      clear hx
      obtain ⟨id, us, ms, ls⟩ := x
      obtain ⟨c0, -, -, -, -, -, -⟩ := Z
      dsimp only at c0
      by_cases he : id = t
      · have d : (id == t) = true := by simp [he]
        have HE : Hid (atI xs t = (j : Int)) := ixT_yes xs j _ HX.out (by simp [he]) hA.out
        clear he
        go_wp2_with fail
        go_ret
        exact ⟨by rw [HE.out]; rfl, gr⟩
      · have d : (id == t) = false := by simp [he]
        have HA2 : Hid (∀ x ∈ xs.take (j + 1), ((fun i : Int => decide (i = t)) x.id) = false) := take_all hA.out HX.out (by simp [he])
        clear he
        go_wp2_with fail
        go_roundw
        case rel => exact ⟨j + 1, by omega, by go_num, gr, HA2⟩
        case measure => simp [intOf]; omega
    · have e : j = n := by omega
      subst e
      have HE : Hid (atI xs t = -1) := ixT_no (take_whole HN.out hA.out)
      go_wp2_with fail
      go_ret
      exact ⟨by rw [HE.out]; rfl, gr⟩

theorem R2.block {w w' : World} {b : Nat} {p q : Int} (h : R2 w b p q) (hb : w'.heap[b]? = w.heap[b]?) : R2 w' b p q := ⟨(World.cell?_of_block hb).trans h.c0, (World.cell?_of_block hb).trans h.c1⟩
theorem R2.turned {w w' : World} {b lo hi : Nat} {p q : Int} (h : R2 w b p q) (ht : Turned lo hi w w') (hn : b < lo ∨ hi ≤ b) : R2 w' b p q := ⟨ht.cell (p := ⟨b, 0, none⟩) h.c0 hn, ht.cell (p := ⟨b, 1, none⟩) h.c1 hn⟩
set_option maxHeartbeats 16000000 in
theorem l10Note_any (a : Option Addr) (xs : List TxV) (n c j : Nat) (xid : Int) (xu : List Chg) (xm : List Int) (xl : List K2) (x0 : Bool) (xt xk xv : Int) (xst : ByteArray) (x5 : Bool) (yt yk yv : Int) (yst : ByteArray) (w : World) (hn : xs.length = n) (hm : n ≤ 1048576) (hs : ∀ x ∈ xs, TxOk 1048576 x) (hr : TxRd w a xs) (hx : xs[j]? = some ⟨xid, xu, xm, xl⟩) :
    Calls Try.prog 75 #[.slice a n c, .int .i64 j, .agg #[.bool x0, .int .i64 xt, .int .i64 xk, .int .i64 xv, .string xst, .bool x5, .int .i64 yt, .int .i64 yk, .int .i64 yv, .string yst]] w fun e w' => ∃ g c', e = .returned (.slice (some ⟨g, 0, none⟩) n c') ∧ Below w.heap.size w w' ∧ OwA w.heap.size w' (some ⟨g, 0, none⟩) (xs.set j ⟨xid, xu ++ [(⟨x0, ⟨xt, xk, xv, xst⟩, x5, ⟨yt, yk, yv, yst⟩⟩ : Chg)], xm, withL xl (ncK (⟨x0, ⟨xt, xk, xv, xst⟩, x5, ⟨yt, yk, yv, yst⟩⟩ : Chg))⟩) := by
  have HN : Hid (xs.length = n) := hn
  have HXx : Hid (xs[j]? = some ⟨xid, xu, xm, xl⟩) := hx
  have hok := hs _ (List.mem_of_getElem? hx)
  obtain ⟨k1, -, -, k4⟩ := hok
  dsimp only at k1 k4
  have hxl : j < xs.length := (List.getElem?_eq_some_iff.1 hx).1
  have hjn : j < n := by rw [← hn]; exact hxl
  have hjn' : (j : Int) < (n : Int) := by omega
  have HCp : Hid (∀ V, Below w.heap.size w V → Calls Try.prog 125 #[.slice a n c] V fun e w' => ∃ a' c' hs, e = .returned (.slice a' n c') ∧ Below V.heap.size V w' ∧ w'.ownsRow V.heap.size 110 4 (.slice a' n c') hs.length (flat hdE hs) ∧ LsC V.heap.size w' hs xs) := fun V hV => l10Copy_any a xs n c V hn hm hs (hr.below hV (Nat.le_refl _))
  have HNK : Hid (ncK (⟨x0, ⟨xt, xk, xv, xst⟩, x5, ⟨yt, yk, yv, yst⟩⟩ : Chg) = ⟨kT (⟨x0, ⟨xt, xk, xv, xst⟩, x5, ⟨yt, yk, yv, yst⟩⟩ : Chg), kK (⟨x0, ⟨xt, xk, xv, xst⟩, x5, ⟨yt, yk, yv, yst⟩⟩ : Chg)⟩) := rfl
  obtain ⟨kk, hkk⟩ : ∃ kk, ncK (⟨x0, ⟨xt, xk, xv, xst⟩, x5, ⟨yt, yk, yv, yst⟩⟩ : Chg) = kk := ⟨_, rfl⟩
  rw [hkk] at HNK
  rw [hkk]
  clear hn hm hs hr hx hkk
  go_enter Try.func75, Try.ntmps75
  go_upto_region 1 with (fail)
  generalize hY : World.alloc _ _ = Y
  have g : Below w.heap.size w Y := by rw [← hY]; go_grown
  have Z : ChC Y w.heap.size 0 (⟨x0, ⟨xt, xk, xv, xst⟩, x5, ⟨yt, yk, yv, yst⟩⟩ : Chg) := by rw [← hY]; exact ⟨by simp [go_sem], by simp [go_sem], by simp [go_sem], by simp [go_sem], by simp [go_sem], by simp [go_sem], by simp [go_sem], by simp [go_sem], by simp [go_sem], by simp [go_sem]⟩
  clear hY
  obtain ⟨kb, hkb⟩ : ∃ kb, w.heap.size = kb := ⟨_, rfl⟩
  rw [hkb] at Z
  simp only [hkb]
  have HKB : Hid (w.heap.size = kb) := hkb
  clear hkb
  have lZ := Z.lt
  have HBx : Hid (∀ V, Below Y.heap.size Y V → ChC V kb 0 (⟨x0, ⟨xt, xk, xv, xst⟩, x5, ⟨yt, yk, yv, yst⟩⟩ : Chg)) := fun V hV => Z.below hV lZ
  clear Z lZ
  have hcp := HCp.out Y g
  go_wp2_with fail
  refine hcp.mono ?_
  rintro e W7 ⟨a7, c7, hs, rfl, g7, ho7, hL⟩
  clear hcp HCp
  have hsl : hs.length = n := by rw [hL.len]; exact HN.out
  obtain ⟨gb, rfl⟩ : ∃ gb, a7 = some ⟨gb, 0, none⟩ := by
    obtain ⟨_, ⟨_, e2⟩ | ⟨gb, cap, cur, e1, _⟩⟩ := ho7
    · omega
    · cases e1; exact ⟨gb, rfl⟩
  have hd : HdC W7 gb hs := HdC.of ho7
  have hG : TxBk W7 gb := TxBk.of ho7
  have hgY : Y.heap.size ≤ gb := (ownsRow_lo ho7 gb rfl).1
  obtain ⟨hh, hi, t⟩ := hL.at HXx.out
  have HTl : Hid (hh.ln = xl.length) := t.ln
  obtain ⟨hid, hua, hun, huc, hma, hmn, hmc, hla, hln, hlc⟩ := hh
  have hlb : hln ≤ 10000000 := by have h1 : hln = xl.length := HTl.out; omega
  have hjl : j < hs.length := by omega
  have HI : Hid (hs[j]? = some (⟨hid, hua, hun, huc, hma, hmn, hmc, hla, hln, hlc⟩ : TxH)) := hi
  have HLs : Hid (LsC Y.heap.size W7 hs xs) := hL
  obtain ⟨u1, hu1'⟩ : ∃ u1, xu.length + 1 = u1 := ⟨_, rfl⟩
  have hu1 : Hid (xu.length + 1 = u1) := hu1'
  have HD : Hid (HdC W7 gb hs) := hd
  clear ho7 t hi hL hu1' hd
  go_upto_region 3 with (fail)
  go_cut [] from 15 (fun wx => ∃ a1 d1, Below Y.heap.size Y wx ∧ HdC wx gb (hs.set j (⟨hid, a1, u1, d1, hma, hmn, hmc, hla, hln, hlc⟩ : TxH)) ∧ TxBk wx gb ∧ LsC Y.heap.size wx (hs.set j (⟨hid, a1, u1, d1, hma, hmn, hmc, hla, hln, hlc⟩ : TxH)) (xs.set j (⟨xid, xu ++ [(⟨x0, ⟨xt, xk, xv, xst⟩, x5, ⟨yt, yk, yv, yst⟩⟩ : Chg)], xm, xl⟩ : TxV)))
  case first =>
    have hd := HD.out
    have hL := HLs.out
    have hi := HI.out
    have hx := HXx.out
    clear HN HTl HD HLs HI HNK
    refine wp_region_held_drew (S := Below Y.heap.size Y) (by kernel_rfl) (g7.trans ((Below.refl _ W7).drew.mono g7.size)) (fun hHeld => ?_)
    have hd : HdC W7.drew gb hs := hd.block rfl
    have hG : TxBk W7.drew gb := hG.block rfl
    have L : LsC Y.heap.size W7.drew hs xs := hL.below (Below.refl _ W7).drew
    clear hL g7
    generalize W7.drew = D at hHeld hd hG L ⊢
    refine wpAnyH_take (i := 0) (v := ?v1) rfl (by kernel_rfl) (by kernel_rfl) (by kernel_rfl) (fun _ _ _ h => h) (Or.inl ⟨by kernel_rfl, ?h1⟩) hHeld ?_
    case h1 => intro u hSw; (obtain ⟨q0, q1, q2, q3, q4, q5, q6, q7, q8, q9⟩ := HBx.out _ hSw; dsimp only at q0 q1 q2 q3 q4 q5 q6 q7 q8 q9); go_simp; try with_reducible rfl
    try simp only [List.getElem_toArray]
    try simp only [List.getElem_cons_succ]
    try simp only [List.getElem_cons_zero]
    try simp only [Act.put]
    try simp only [List.setIfInBounds_toArray]
    try simp only [List.set]
    refine wpAnyH_take (i := 1) (v := ?v2) rfl (by kernel_rfl) (by kernel_rfl) (by kernel_rfl) (fun _ _ _ h => h) (Or.inl ⟨by kernel_rfl, ?h2⟩) hHeld ?_
    case h2 => intro u hSw; (obtain ⟨q0, q1, q2, q3, q4, q5, q6, q7, q8, q9⟩ := HBx.out _ hSw; dsimp only at q0 q1 q2 q3 q4 q5 q6 q7 q8 q9); go_simp; try with_reducible rfl
    try simp only [List.getElem_toArray]
    try simp only [List.getElem_cons_succ]
    try simp only [List.getElem_cons_zero]
    try simp only [Act.put]
    try simp only [List.setIfInBounds_toArray]
    try simp only [List.set]
    refine wpAnyH_take (i := 2) (v := ?v3) rfl (by kernel_rfl) (by kernel_rfl) (by kernel_rfl) (fun _ _ _ h => h) (Or.inl ⟨by kernel_rfl, ?h3⟩) hHeld ?_
    case h3 => intro u hSw; (obtain ⟨q0, q1, q2, q3, q4, q5, q6, q7, q8, q9⟩ := HBx.out _ hSw; dsimp only at q0 q1 q2 q3 q4 q5 q6 q7 q8 q9); go_simp; try with_reducible rfl
    try simp only [List.getElem_toArray]
    try simp only [List.getElem_cons_succ]
    try simp only [List.getElem_cons_zero]
    try simp only [Act.put]
    try simp only [List.setIfInBounds_toArray]
    try simp only [List.set]
    refine wpAnyH_take (i := 3) (v := ?v4) rfl (by kernel_rfl) (by kernel_rfl) (by kernel_rfl) (fun _ _ _ h => h) (Or.inl ⟨by kernel_rfl, ?h4⟩) hHeld ?_
    case h4 => intro u hSw; (obtain ⟨q0, q1, q2, q3, q4, q5, q6, q7, q8, q9⟩ := HBx.out _ hSw; dsimp only at q0 q1 q2 q3 q4 q5 q6 q7 q8 q9); go_simp; try with_reducible rfl
    try simp only [List.getElem_toArray]
    try simp only [List.getElem_cons_succ]
    try simp only [List.getElem_cons_zero]
    try simp only [Act.put]
    try simp only [List.setIfInBounds_toArray]
    try simp only [List.set]
    refine wpAnyH_take (i := 5) (v := ?v5) rfl (by kernel_rfl) (by kernel_rfl) (by kernel_rfl) (fun _ _ _ h => h) (Or.inl ⟨by kernel_rfl, ?h5⟩) hHeld ?_
    case h5 => intro u hSw; (obtain ⟨q0, q1, q2, q3, q4, q5, q6, q7, q8, q9⟩ := HBx.out _ hSw; dsimp only at q0 q1 q2 q3 q4 q5 q6 q7 q8 q9); go_simp; try with_reducible rfl
    try simp only [List.getElem_toArray]
    try simp only [List.getElem_cons_succ]
    try simp only [List.getElem_cons_zero]
    try simp only [Act.put]
    try simp only [List.setIfInBounds_toArray]
    try simp only [List.set]
    refine wpAnyH_ready (rs := [4, 6]) (by kernel_rfl) (by simp) ?_
    refine AllReadyH.cons rfl (fun K hK => ?_) (AllReadyH.cons rfl (fun K hK => ?_) AllReadyH.nil)
    · obtain ⟨⟨z0, z1, z2, z3⟩, zf⟩ := hd j _ hi
      dsimp only at z0 z1 z2 z3
      go_simp
      refine hK.out _ _ hHeld (fun hHeld => ?_)
      clear hK K z0 z1 z2 z3 zf
      try simp only [Act.put]
      try simp only [List.setIfInBounds_toArray]
      try simp only [List.set]
      refine wpAnyH_ready (rs := [6]) (by kernel_rfl) (by simp) ?_
      refine AllReadyH.cons rfl (fun K hK => ?_) AllReadyH.nil
      have gAl : Below D.heap.size D (D.alloc (.cells (chE (⟨x0, ⟨xt, xk, xv, xst⟩, x5, ⟨yt, yk, yv, yst⟩⟩ : Chg)).toArray 61)) := by go_grown
      have hrs : Rs chE 10 (D.alloc (.cells (chE (⟨x0, ⟨xt, xk, xv, xst⟩, x5, ⟨yt, yk, yv, yst⟩⟩ : Chg)).toArray 61)) (some ⟨D.heap.size, 0, none⟩) [(⟨x0, ⟨xt, xk, xv, xst⟩, x5, ⟨yt, yk, yv, yst⟩⟩ : Chg)] := rs_one (enc := chE) D (⟨x0, ⟨xt, xk, xv, xst⟩, x5, ⟨yt, yk, yv, yst⟩⟩ : Chg) 61
      go_simp
      refine hK.out _ _ (hHeld.trans (gAl.mono hHeld.size)) (fun hHeld => ?_)
      clear hK K
      have hd := hd.block (gAl.block gb hG.lt)
      have hG := hG.block (gAl.block gb hG.lt)
      have L := L.below gAl
      clear gAl
      generalize D.heap.size = cb at hrs ⊢
      have eAl : D.alloc (.cells (chE (⟨x0, ⟨xt, xk, xv, xst⟩, x5, ⟨yt, yk, yv, yst⟩⟩ : Chg)).toArray 61) = D.alloc (.cells #[.bool x0, .int .i64 xt, .int .i64 xk, .int .i64 xv, .string xst, .bool x5, .int .i64 yt, .int .i64 yk, .int .i64 yv, .string yst] 61) := rfl
      try rw [eAl] at hrs
      try rw [eAl] at hd
      try rw [eAl] at hG
      try rw [eAl] at L
      try rw [eAl] at hHeld
      clear eAl
      generalize D.alloc (.cells #[.bool x0, .int .i64 xt, .int .i64 xk, .int .i64 xv, .string xst, .bool x5, .int .i64 yt, .int .i64 yk, .int .i64 yv, .string yst] 61) = E1 at hrs hd hG L hHeld ⊢
      try simp only [Act.put]
      try simp only [List.setIfInBounds_toArray]
      try simp only [List.set]
      refine wpAnyH_ready (rs := [7]) (by kernel_rfl) (by simp) ?_
      refine AllReadyH.cons rfl (fun K hK => ?_) AllReadyH.nil
      have t := L.one j _ _ hi hx
      rw [if_pos (by kernel_rfl)]
      refine wp_append_sl elC _ _ _ rfl Y.heap.size (TxH.U (⟨hid, hua, hun, huc, hma, hmn, hmc, hla, hln, hlc⟩ : TxH)) xu [(⟨x0, ⟨xt, xk, xv, xst⟩, x5, ⟨yt, yk, yv, yst⟩⟩ : Chg)] (some ⟨cb, 0, none⟩) 1 1 rfl rfl rfl t.u hrs (show xu.length + 1 ≤ 100000000 by omega) hHeld.size ?_
      intro v4 E2 ho4 hg4 hob4
      refine hK.out _ _ (Below.grown hHeld hg4 hHeld.size (fun q e => (ownsRow_lo t.u q e).1)) (fun hHeld => ?_)
      clear hK K
      have hgb := hg4.block gb hG.lt (fun e => hG.ne t.u (by decide) e.symm)
      have hd := hd.block hgb
      have hG := hG.block hgb
      obtain ⟨a1, d1, e4, _⟩ := SlIn.ofRow chE_len ho4
      have hun1 : (xu ++ [(⟨x0, ⟨xt, xk, xv, xst⟩, x5, ⟨yt, yk, yv, yst⟩⟩ : Chg)]).length = u1 := by rw [List.length_append]; exact hu1.out
      rw [hun1] at e4
      subst e4
      have L := L.appU hi hx (a := a1) (n := u1) (c := d1) (us := xu ++ [(⟨x0, ⟨xt, xk, xv, xst⟩, x5, ⟨yt, yk, yv, yst⟩⟩ : Chg)]) (Kp.grown hg4) (Nx.of hob4) hun1.symm ho4
      clear t hgb hg4 hob4 ho4 hun1 hrs
      try simp only [Act.put]
      try simp only [List.setIfInBounds_toArray]
      try simp only [List.set]
      refine wpAnyH_take (i := 8) (v := ?v6) rfl (by kernel_rfl) (by kernel_rfl) (by kernel_rfl) (fun _ _ _ h => h) (Or.inl ⟨by kernel_rfl, ?h6⟩) hHeld ?_
      case h6 => intro u hSw; (obtain ⟨q0, q1, q2, q3, q4, q5, q6, q7, q8, q9⟩ := HBx.out _ hSw; dsimp only at q0 q1 q2 q3 q4 q5 q6 q7 q8 q9); go_simp; try with_reducible rfl
      try simp only [List.getElem_toArray]
      try simp only [List.getElem_cons_succ]
      try simp only [List.getElem_cons_zero]
      try simp only [Act.put]
      try simp only [List.setIfInBounds_toArray]
      try simp only [List.set]
      refine wpAnyH_take (i := 9) (v := ?v7) rfl (by kernel_rfl) (by kernel_rfl) (by kernel_rfl) (fun _ _ _ h => h) (Or.inl ⟨by kernel_rfl, ?h7⟩) hHeld ?_
      case h7 => intro u hSw; (obtain ⟨q0, q1, q2, q3, q4, q5, q6, q7, q8, q9⟩ := HBx.out _ hSw; dsimp only at q0 q1 q2 q3 q4 q5 q6 q7 q8 q9); go_simp; try with_reducible rfl
      try simp only [List.getElem_toArray]
      try simp only [List.getElem_cons_succ]
      try simp only [List.getElem_cons_zero]
      try simp only [Act.put]
      try simp only [List.setIfInBounds_toArray]
      try simp only [List.set]
      obtain ⟨⟨z0, z1, z2, z3⟩, zf⟩ := hd j _ hi
      dsimp only at z0 z1 z2 z3
      have f1 := zf 1 (by omega)
      have T1 : Turned gb (gb + 1) E2 (E2.setCell ⟨gb, j * 4 + 1, none⟩ (.slice a1 u1 d1)) := (Turned.refl _ _ E2).setCell (p := ⟨gb, j * 4 + 1, none⟩) (Nat.le_refl _) (Nat.lt_succ_self _) _
      have hd1 : HdC (E2.setCell ⟨gb, j * 4 + 1, none⟩ (.slice a1 u1 d1)) gb (hs.set j (⟨hid, a1, u1, d1, hma, hmn, hmc, hla, hln, hlc⟩ : TxH)) := hd.set hi ⟨by rw [cell_off (by omega)]; exact z0, by simp [go_sem, z1], by rw [cell_off (by omega)]; exact z2, by rw [cell_off (by omega)]; exact z3⟩ (fun p hp => by rw [cell_off (by omega)]) (fun p => by rw [World.frozen?_setCell])
      have L1 := L.setBk T1 hG
      have hG1 := hG.set (j * 4 + 1) (.slice a1 u1 d1)
      refine wpAnyH_ready (rs := [10]) (by kernel_rfl) (by simp) ?_
      refine AllReadyH.cons rfl (fun K hK => ?_) AllReadyH.nil
      go_simp
      refine hK.out _ _ (hHeld.trans (T1.toBelow hHeld.size hgY)) (fun hHeld => ?_)
      clear hK K T1 z0 z1 z2 z3 zf f1 hd L hG
      generalize (E2.setCell ⟨gb, j * 4 + 1, none⟩ (.slice a1 u1 d1)) = Z1 at hd1 L1 hG1 hHeld ⊢
      try simp only [Act.put]
      try simp only [List.setIfInBounds_toArray]
      try simp only [List.set]
      refine wpAnyH_done (by kernel_rfl) ?_ _
      have g9 := hHeld
      clear hHeld
      go_wp2_with fail
      go_meet
      case rel => exact ⟨a1, d1, g9, hd1, hG1, L1⟩
    · have gAl : Below D.heap.size D (D.alloc (.cells (chE (⟨x0, ⟨xt, xk, xv, xst⟩, x5, ⟨yt, yk, yv, yst⟩⟩ : Chg)).toArray 61)) := by go_grown
      have hrs : Rs chE 10 (D.alloc (.cells (chE (⟨x0, ⟨xt, xk, xv, xst⟩, x5, ⟨yt, yk, yv, yst⟩⟩ : Chg)).toArray 61)) (some ⟨D.heap.size, 0, none⟩) [(⟨x0, ⟨xt, xk, xv, xst⟩, x5, ⟨yt, yk, yv, yst⟩⟩ : Chg)] := rs_one (enc := chE) D (⟨x0, ⟨xt, xk, xv, xst⟩, x5, ⟨yt, yk, yv, yst⟩⟩ : Chg) 61
      go_simp
      refine hK.out _ _ (hHeld.trans (gAl.mono hHeld.size)) (fun hHeld => ?_)
      clear hK K
      have hd := hd.block (gAl.block gb hG.lt)
      have hG := hG.block (gAl.block gb hG.lt)
      have L := L.below gAl
      clear gAl
      generalize D.heap.size = cb at hrs ⊢
      have eAl : D.alloc (.cells (chE (⟨x0, ⟨xt, xk, xv, xst⟩, x5, ⟨yt, yk, yv, yst⟩⟩ : Chg)).toArray 61) = D.alloc (.cells #[.bool x0, .int .i64 xt, .int .i64 xk, .int .i64 xv, .string xst, .bool x5, .int .i64 yt, .int .i64 yk, .int .i64 yv, .string yst] 61) := rfl
      try rw [eAl] at hrs
      try rw [eAl] at hd
      try rw [eAl] at hG
      try rw [eAl] at L
      try rw [eAl] at hHeld
      clear eAl
      generalize D.alloc (.cells #[.bool x0, .int .i64 xt, .int .i64 xk, .int .i64 xv, .string xst, .bool x5, .int .i64 yt, .int .i64 yk, .int .i64 yv, .string yst] 61) = E1 at hrs hd hG L hHeld ⊢
      try simp only [Act.put]
      try simp only [List.setIfInBounds_toArray]
      try simp only [List.set]
      refine wpAnyH_ready (rs := [4]) (by kernel_rfl) (by simp) ?_
      refine AllReadyH.cons rfl (fun K hK => ?_) AllReadyH.nil
      obtain ⟨⟨z0, z1, z2, z3⟩, zf⟩ := hd j _ hi
      dsimp only at z0 z1 z2 z3
      go_simp
      refine hK.out _ _ hHeld (fun hHeld => ?_)
      clear hK K z0 z1 z2 z3 zf
      try simp only [Act.put]
      try simp only [List.setIfInBounds_toArray]
      try simp only [List.set]
      refine wpAnyH_ready (rs := [7]) (by kernel_rfl) (by simp) ?_
      refine AllReadyH.cons rfl (fun K hK => ?_) AllReadyH.nil
      have t := L.one j _ _ hi hx
      rw [if_pos (by kernel_rfl)]
      refine wp_append_sl elC _ _ _ rfl Y.heap.size (TxH.U (⟨hid, hua, hun, huc, hma, hmn, hmc, hla, hln, hlc⟩ : TxH)) xu [(⟨x0, ⟨xt, xk, xv, xst⟩, x5, ⟨yt, yk, yv, yst⟩⟩ : Chg)] (some ⟨cb, 0, none⟩) 1 1 rfl rfl rfl t.u hrs (show xu.length + 1 ≤ 100000000 by omega) hHeld.size ?_
      intro v4 E2 ho4 hg4 hob4
      refine hK.out _ _ (Below.grown hHeld hg4 hHeld.size (fun q e => (ownsRow_lo t.u q e).1)) (fun hHeld => ?_)
      clear hK K
      have hgb := hg4.block gb hG.lt (fun e => hG.ne t.u (by decide) e.symm)
      have hd := hd.block hgb
      have hG := hG.block hgb
      obtain ⟨a1, d1, e4, _⟩ := SlIn.ofRow chE_len ho4
      have hun1 : (xu ++ [(⟨x0, ⟨xt, xk, xv, xst⟩, x5, ⟨yt, yk, yv, yst⟩⟩ : Chg)]).length = u1 := by rw [List.length_append]; exact hu1.out
      rw [hun1] at e4
      subst e4
      have L := L.appU hi hx (a := a1) (n := u1) (c := d1) (us := xu ++ [(⟨x0, ⟨xt, xk, xv, xst⟩, x5, ⟨yt, yk, yv, yst⟩⟩ : Chg)]) (Kp.grown hg4) (Nx.of hob4) hun1.symm ho4
      clear t hgb hg4 hob4 ho4 hun1 hrs
      try simp only [Act.put]
      try simp only [List.setIfInBounds_toArray]
      try simp only [List.set]
      refine wpAnyH_take (i := 8) (v := ?v8) rfl (by kernel_rfl) (by kernel_rfl) (by kernel_rfl) (fun _ _ _ h => h) (Or.inl ⟨by kernel_rfl, ?h8⟩) hHeld ?_
      case h8 => intro u hSw; (obtain ⟨q0, q1, q2, q3, q4, q5, q6, q7, q8, q9⟩ := HBx.out _ hSw; dsimp only at q0 q1 q2 q3 q4 q5 q6 q7 q8 q9); go_simp; try with_reducible rfl
      try simp only [List.getElem_toArray]
      try simp only [List.getElem_cons_succ]
      try simp only [List.getElem_cons_zero]
      try simp only [Act.put]
      try simp only [List.setIfInBounds_toArray]
      try simp only [List.set]
      refine wpAnyH_take (i := 9) (v := ?v9) rfl (by kernel_rfl) (by kernel_rfl) (by kernel_rfl) (fun _ _ _ h => h) (Or.inl ⟨by kernel_rfl, ?h9⟩) hHeld ?_
      case h9 => intro u hSw; (obtain ⟨q0, q1, q2, q3, q4, q5, q6, q7, q8, q9⟩ := HBx.out _ hSw; dsimp only at q0 q1 q2 q3 q4 q5 q6 q7 q8 q9); go_simp; try with_reducible rfl
      try simp only [List.getElem_toArray]
      try simp only [List.getElem_cons_succ]
      try simp only [List.getElem_cons_zero]
      try simp only [Act.put]
      try simp only [List.setIfInBounds_toArray]
      try simp only [List.set]
      obtain ⟨⟨z0, z1, z2, z3⟩, zf⟩ := hd j _ hi
      dsimp only at z0 z1 z2 z3
      have f1 := zf 1 (by omega)
      have T1 : Turned gb (gb + 1) E2 (E2.setCell ⟨gb, j * 4 + 1, none⟩ (.slice a1 u1 d1)) := (Turned.refl _ _ E2).setCell (p := ⟨gb, j * 4 + 1, none⟩) (Nat.le_refl _) (Nat.lt_succ_self _) _
      have hd1 : HdC (E2.setCell ⟨gb, j * 4 + 1, none⟩ (.slice a1 u1 d1)) gb (hs.set j (⟨hid, a1, u1, d1, hma, hmn, hmc, hla, hln, hlc⟩ : TxH)) := hd.set hi ⟨by rw [cell_off (by omega)]; exact z0, by simp [go_sem, z1], by rw [cell_off (by omega)]; exact z2, by rw [cell_off (by omega)]; exact z3⟩ (fun p hp => by rw [cell_off (by omega)]) (fun p => by rw [World.frozen?_setCell])
      have L1 := L.setBk T1 hG
      have hG1 := hG.set (j * 4 + 1) (.slice a1 u1 d1)
      refine wpAnyH_ready (rs := [10]) (by kernel_rfl) (by simp) ?_
      refine AllReadyH.cons rfl (fun K hK => ?_) AllReadyH.nil
      go_simp
      refine hK.out _ _ (hHeld.trans (T1.toBelow hHeld.size hgY)) (fun hHeld => ?_)
      clear hK K T1 z0 z1 z2 z3 zf f1 hd L hG
      generalize (E2.setCell ⟨gb, j * 4 + 1, none⟩ (.slice a1 u1 d1)) = Z1 at hd1 L1 hG1 hHeld ⊢
      try simp only [Act.put]
      try simp only [List.setIfInBounds_toArray]
      try simp only [List.set]
      refine wpAnyH_done (by kernel_rfl) ?_ _
      have g9 := hHeld
      clear hHeld
      go_wp2_with fail
      go_meet
      case rel => exact ⟨a1, d1, g9, hd1, hG1, L1⟩
  case rest =>
  obtain ⟨a1, d1, g8, hd, hG, hL⟩ := hcut
  clear g7
  obtain ⟨V8, hV8⟩ : ∃ V8, V8 = wc := ⟨_, rfl⟩
  subst hV8
  have hky := l10KeyOf_any kb 0 (⟨x0, ⟨xt, xk, xv, xst⟩, x5, ⟨yt, yk, yv, yst⟩⟩ : Chg) V8 (HBx.out V8 g8)
  obtain ⟨kx, hkx⟩ : ∃ kx, kT (⟨x0, ⟨xt, xk, xv, xst⟩, x5, ⟨yt, yk, yv, yst⟩⟩ : Chg) = kx := ⟨_, rfl⟩
  obtain ⟨ky, hky'⟩ : ∃ ky, kK (⟨x0, ⟨xt, xk, xv, xst⟩, x5, ⟨yt, yk, yv, yst⟩⟩ : Chg) = ky := ⟨_, rfl⟩
  rw [hkx, hky'] at hky HNK
  clear hkx hky'
  have HKK : Hid (kk = ⟨kx, ky⟩) := HNK.out
  have HD : Hid (HdC V8 gb (hs.set j (⟨hid, a1, u1, d1, hma, hmn, hmc, hla, hln, hlc⟩ : TxH))) := hd
  have HLs1 : Hid (LsC Y.heap.size V8 (hs.set j (⟨hid, a1, u1, d1, hma, hmn, hmc, hla, hln, hlc⟩ : TxH)) (xs.set j (⟨xid, xu ++ [(⟨x0, ⟨xt, xk, xv, xst⟩, x5, ⟨yt, yk, yv, yst⟩⟩ : Chg)], xm, xl⟩ : TxV))) := hL
  clear hd hL HNK
  go_wp2_with fail
  refine hky.mono ?_
  rintro e W9 ⟨rfl, g9⟩
  clear hky
  go_upto_region 5 with (fail)
  generalize hY : World.alloc _ _ = Y9
  have g10 : Below W9.heap.size W9 Y9 := by rw [← hY]; go_grown
  have kR : R2 Y9 W9.heap.size kx ky := by rw [← hY]; exact ⟨by simp [go_sem], by simp [go_sem]⟩
  have hW9 : V8.heap.size ≤ W9.heap.size := g9.size
  have g10 := g9.trans (g10.mono g9.size)
  clear hY g9
  have hyb : ∀ q, (TxH.L (⟨hid, a1, u1, d1, hma, hmn, hmc, hla, hln, hlc⟩ : TxH)).ownBlock = some q → q ≠ W9.heap.size := fun q hq => by
    have t := HLs1.out.one j _ _ (List.getElem?_set_self hjl) (List.getElem?_set_self hxl)
    have h1 := (ownsRow_lo t.l q hq).2
    have h2 := hW9
    omega
  have hgby : gb < W9.heap.size := by have h1 := hG.lt; have h2 := hW9; omega
  generalize W9.heap.size = yb at kR hyb hgby ⊢
  have lK := kR.lt
  have HKy0 : Hid (∀ V, Below Y9.heap.size Y9 V → R2 V yb kx ky) := fun V hV => kR.below hV
  have hd : HdC Y9 gb (hs.set j (⟨hid, a1, u1, d1, hma, hmn, hmc, hla, hln, hlc⟩ : TxH)) := HD.out.block (g10.block gb hG.lt)
  have hG : TxBk Y9 gb := hG.block (g10.block gb hG.lt)
  have hL : LsC Y.heap.size Y9 (hs.set j (⟨hid, a1, u1, d1, hma, hmn, hmc, hla, hln, hlc⟩ : TxH)) (xs.set j (⟨xid, xu ++ [(⟨x0, ⟨xt, xk, xv, xst⟩, x5, ⟨yt, yk, yv, yst⟩⟩ : Chg)], xm, xl⟩ : TxV)) := HLs1.out.below g10
  have g8 := g8.trans (g10.mono g8.size)
  clear g10 HD HLs1
  have hi1 : (hs.set j (⟨hid, a1, u1, d1, hma, hmn, hmc, hla, hln, hlc⟩ : TxH))[j]? = some (⟨hid, a1, u1, d1, hma, hmn, hmc, hla, hln, hlc⟩ : TxH) := List.getElem?_set_self hjl
  have hx1 : (xs.set j (⟨xid, xu ++ [(⟨x0, ⟨xt, xk, xv, xst⟩, x5, ⟨yt, yk, yv, yst⟩⟩ : Chg)], xm, xl⟩ : TxV))[j]? = some (⟨xid, xu ++ [(⟨x0, ⟨xt, xk, xv, xst⟩, x5, ⟨yt, yk, yv, yst⟩⟩ : Chg)], xm, xl⟩ : TxV) := List.getElem?_set_self hxl
  have t := hL.one j _ _ hi1 hx1
  have hc3 := (hd j _ hi1).1.c3
  have HC3 : Hid (Y9.cell? ⟨gb, j * 4 + 3, none⟩ = some (.slice hla hln hlc)) := hc3
  have hRl : Rs kyE 2 Y9 hla xl := by
    obtain ⟨a', c', e, _, hin, _⟩ := SlIn.ofRow kyE_len t.l
    cases e
    exact hin.reads
  have hlk := l10Locks_any gb (j * 4) hla xl hln hlc kx ky Y9 (by have h1 : hln = xl.length := HTl.out; exact h1.symm) (by omega) hRl hc3
  have HI1 : Hid ((hs.set j (⟨hid, a1, u1, d1, hma, hmn, hmc, hla, hln, hlc⟩ : TxH))[j]? = some (⟨hid, a1, u1, d1, hma, hmn, hmc, hla, hln, hlc⟩ : TxH)) := hi1
  have HX1 : Hid ((xs.set j (⟨xid, xu ++ [(⟨x0, ⟨xt, xk, xv, xst⟩, x5, ⟨yt, yk, yv, yst⟩⟩ : Chg)], xm, xl⟩ : TxV))[j]? = some (⟨xid, xu ++ [(⟨x0, ⟨xt, xk, xv, xst⟩, x5, ⟨yt, yk, yv, yst⟩⟩ : Chg)], xm, xl⟩ : TxV)) := hx1
  have HD : Hid (HdC Y9 gb (hs.set j (⟨hid, a1, u1, d1, hma, hmn, hmc, hla, hln, hlc⟩ : TxH))) := hd
  have HLs1 : Hid (LsC Y.heap.size Y9 (hs.set j (⟨hid, a1, u1, d1, hma, hmn, hmc, hla, hln, hlc⟩ : TxH)) (xs.set j (⟨xid, xu ++ [(⟨x0, ⟨xt, xk, xv, xst⟩, x5, ⟨yt, yk, yv, yst⟩⟩ : Chg)], xm, xl⟩ : TxV))) := hL
  have HW : Hid (withL xl kk = if hasK xl ⟨kx, ky⟩ = true then xl else xl ++ [⟨kx, ky⟩]) := by show _ = _; rw [HKK.out]; rfl
  generalize hasK xl ⟨kx, ky⟩ = f at hlk HW
  obtain ⟨k0, k1'⟩ := kR
  clear t hc3 hRl hi1 hx1 hd hL lK
  go_wp2_with fail
  refine hlk.mono ?_
  rintro e V9 ⟨rfl, g11⟩
  have HKy : Hid (∀ V, Below V9.heap.size V9 V → R2 V yb kx ky) := fun V hV => HKy0.out V (g11.trans (hV.mono g11.size))
  have hd : HdC V9 gb (hs.set j (⟨hid, a1, u1, d1, hma, hmn, hmc, hla, hln, hlc⟩ : TxH)) := HD.out.block (g11.block gb hG.lt)
  have hG : TxBk V9 gb := hG.block (g11.block gb hG.lt)
  have hL : LsC Y.heap.size V9 (hs.set j (⟨hid, a1, u1, d1, hma, hmn, hmc, hla, hln, hlc⟩ : TxH)) (xs.set j (⟨xid, xu ++ [(⟨x0, ⟨xt, xk, xv, xst⟩, x5, ⟨yt, yk, yv, yst⟩⟩ : Chg)], xm, xl⟩ : TxV)) := HLs1.out.below g11
  have g8 := g8.trans (g11.mono g8.size)
  clear g11 HD HLs1 HKy0 hlk HC3 k0 k1'
  cases f
  · have HW : Hid (withL xl kk = xl ++ [⟨kx, ky⟩]) := by have h := HW.out; show _ = _; simpa using h
    obtain ⟨l2, hl2'⟩ : ∃ l2, xl.length + 1 = l2 := ⟨_, rfl⟩
    have hl2 : Hid (xl.length + 1 = l2) := hl2'
    have HD : Hid (HdC V9 gb (hs.set j (⟨hid, a1, u1, d1, hma, hmn, hmc, hla, hln, hlc⟩ : TxH))) := hd
    have HLs1 : Hid (LsC Y.heap.size V9 (hs.set j (⟨hid, a1, u1, d1, hma, hmn, hmc, hla, hln, hlc⟩ : TxH)) (xs.set j (⟨xid, xu ++ [(⟨x0, ⟨xt, xk, xv, xst⟩, x5, ⟨yt, yk, yv, yst⟩⟩ : Chg)], xm, xl⟩ : TxV))) := hL
    clear hl2' hd hL
    go_upto_region 6 with (fail)
    go_cut [] from 30 (fun wx => ∃ a2 l2 d2, Below Y.heap.size Y wx ∧ HdC wx gb (hs.set j (⟨hid, a1, u1, d1, hma, hmn, hmc, a2, l2, d2⟩ : TxH)) ∧ TxBk wx gb ∧ LsC Y.heap.size wx (hs.set j (⟨hid, a1, u1, d1, hma, hmn, hmc, a2, l2, d2⟩ : TxH)) (xs.set j ⟨xid, xu ++ [(⟨x0, ⟨xt, xk, xv, xst⟩, x5, ⟨yt, yk, yv, yst⟩⟩ : Chg)], xm, xl ++ [⟨kx, ky⟩]⟩))
    case first =>
      have hd := HD.out
      have hL := HLs1.out
      have hi := HI1.out
      have hx := HX1.out
      clear HN HTl HD HLs1 HI HI1 HX1 HW HKK
      refine wp_region_held_drew (S := fun V => Below Y.heap.size Y V ∧ R2 V yb kx ky) (by kernel_rfl) ⟨g8.trans ((Below.refl _ V9).drew.mono g8.size), HKy.out _ (Below.refl _ V9).drew⟩ (fun hHeld => ?_)
      have hd : HdC V9.drew gb (hs.set j (⟨hid, a1, u1, d1, hma, hmn, hmc, hla, hln, hlc⟩ : TxH)) := hd.block rfl
      have hG : TxBk V9.drew gb := hG.block rfl
      have L : LsC Y.heap.size V9.drew (hs.set j (⟨hid, a1, u1, d1, hma, hmn, hmc, hla, hln, hlc⟩ : TxH)) (xs.set j (⟨xid, xu ++ [(⟨x0, ⟨xt, xk, xv, xst⟩, x5, ⟨yt, yk, yv, yst⟩⟩ : Chg)], xm, xl⟩ : TxV)) := hL.below (Below.refl _ V9).drew
      clear hL g8
      generalize V9.drew = D at hHeld hd hG L ⊢
      refine wpAnyH_take (i := 0) (v := ?v10) rfl (by kernel_rfl) (by kernel_rfl) (by kernel_rfl) (fun _ _ _ h => h) (Or.inl ⟨by kernel_rfl, ?h10⟩) hHeld ?_
      case h10 => intro u hSw; (obtain ⟨y0, y1⟩ := hSw.2); go_simp; try with_reducible rfl
      try simp only [List.getElem_toArray]
      try simp only [List.getElem_cons_succ]
      try simp only [List.getElem_cons_zero]
      try simp only [Act.put]
      try simp only [List.setIfInBounds_toArray]
      try simp only [List.set]
      refine wpAnyH_take (i := 1) (v := ?v11) rfl (by kernel_rfl) (by kernel_rfl) (by kernel_rfl) (fun _ _ _ h => h) (Or.inl ⟨by kernel_rfl, ?h11⟩) hHeld ?_
      case h11 => intro u hSw; (obtain ⟨y0, y1⟩ := hSw.2); go_simp; try with_reducible rfl
      try simp only [List.getElem_toArray]
      try simp only [List.getElem_cons_succ]
      try simp only [List.getElem_cons_zero]
      try simp only [Act.put]
      try simp only [List.setIfInBounds_toArray]
      try simp only [List.set]
      refine wpAnyH_take (i := 2) (v := ?v12) rfl (by kernel_rfl) (by kernel_rfl) (by kernel_rfl) (fun _ _ _ h => h) (Or.inl ⟨by kernel_rfl, ?h12⟩) hHeld ?_
      case h12 => intro u hSw; (obtain ⟨y0, y1⟩ := hSw.2); go_simp; try with_reducible rfl
      try simp only [List.getElem_toArray]
      try simp only [List.getElem_cons_succ]
      try simp only [List.getElem_cons_zero]
      try simp only [Act.put]
      try simp only [List.setIfInBounds_toArray]
      try simp only [List.set]
      refine wpAnyH_take (i := 3) (v := ?v13) rfl (by kernel_rfl) (by kernel_rfl) (by kernel_rfl) (fun _ _ _ h => h) (Or.inl ⟨by kernel_rfl, ?h13⟩) hHeld ?_
      case h13 => intro u hSw; (obtain ⟨y0, y1⟩ := hSw.2); go_simp; try with_reducible rfl
      try simp only [List.getElem_toArray]
      try simp only [List.getElem_cons_succ]
      try simp only [List.getElem_cons_zero]
      try simp only [Act.put]
      try simp only [List.setIfInBounds_toArray]
      try simp only [List.set]
      refine wpAnyH_take (i := 5) (v := ?v14) rfl (by kernel_rfl) (by kernel_rfl) (by kernel_rfl) (fun _ _ _ h => h) (Or.inl ⟨by kernel_rfl, ?h14⟩) hHeld ?_
      case h14 => intro u hSw; (obtain ⟨y0, y1⟩ := hSw.2); go_simp; try with_reducible rfl
      try simp only [List.getElem_toArray]
      try simp only [List.getElem_cons_succ]
      try simp only [List.getElem_cons_zero]
      try simp only [Act.put]
      try simp only [List.setIfInBounds_toArray]
      try simp only [List.set]
      refine wpAnyH_ready (rs := [4, 6]) (by kernel_rfl) (by simp) ?_
      refine AllReadyH.cons rfl (fun K hK => ?_) (AllReadyH.cons rfl (fun K hK => ?_) AllReadyH.nil)
      · obtain ⟨⟨z0, z1, z2, z3⟩, zf⟩ := hd j _ hi
        dsimp only at z0 z1 z2 z3
        go_simp
        refine hK.out _ _ hHeld (fun hHeld => ?_)
        clear hK K z0 z1 z2 z3 zf
        try simp only [Act.put]
        try simp only [List.setIfInBounds_toArray]
        try simp only [List.set]
        refine wpAnyH_ready (rs := [6]) (by kernel_rfl) (by simp) ?_
        refine AllReadyH.cons rfl (fun K hK => ?_) AllReadyH.nil
        have gAl : Below D.heap.size D (D.alloc (.cells (kyE (⟨kx, ky⟩ : K2)).toArray 89)) := by go_grown
        have hrs : Rs kyE 2 (D.alloc (.cells (kyE (⟨kx, ky⟩ : K2)).toArray 89)) (some ⟨D.heap.size, 0, none⟩) [(⟨kx, ky⟩ : K2)] := rs_one (enc := kyE) D (⟨kx, ky⟩ : K2) 89
        go_simp
        refine hK.out _ _ (⟨hHeld.1.trans (gAl.mono hHeld.1.size), hHeld.2.below gAl⟩) (fun hHeld => ?_)
        clear hK K
        have hd := hd.block (gAl.block gb hG.lt)
        have hG := hG.block (gAl.block gb hG.lt)
        have L := L.below gAl
        clear gAl
        generalize D.heap.size = cb at hrs ⊢
        have eAl : D.alloc (.cells (kyE (⟨kx, ky⟩ : K2)).toArray 89) = D.alloc (.cells #[.int .i64 kx, .int .i64 ky] 89) := rfl
        try rw [eAl] at hrs
        try rw [eAl] at hd
        try rw [eAl] at hG
        try rw [eAl] at L
        try rw [eAl] at hHeld
        clear eAl
        generalize D.alloc (.cells #[.int .i64 kx, .int .i64 ky] 89) = E1 at hrs hd hG L hHeld ⊢
        try simp only [Act.put]
        try simp only [List.setIfInBounds_toArray]
        try simp only [List.set]
        refine wpAnyH_ready (rs := [7]) (by kernel_rfl) (by simp) ?_
        refine AllReadyH.cons rfl (fun K hK => ?_) AllReadyH.nil
        have t := L.one j _ _ hi hx
        rw [if_pos (by kernel_rfl)]
        refine wp_append_sl elKs _ _ _ rfl Y.heap.size (TxH.L (⟨hid, a1, u1, d1, hma, hmn, hmc, hla, hln, hlc⟩ : TxH)) xl [(⟨kx, ky⟩ : K2)] (some ⟨cb, 0, none⟩) 1 1 rfl rfl rfl t.l hrs (show xl.length + 1 ≤ 100000000 by omega) hHeld.1.size ?_
        intro v4 E2 ho4 hg4 hob4
        refine hK.out _ _ ⟨Below.grown hHeld.1 hg4 hHeld.1.size (fun q e => (ownsRow_lo t.l q e).1), hHeld.2.block (hg4.block yb hHeld.2.lt (fun e => hyb yb e.symm rfl))⟩ (fun hHeld => ?_)
        clear hK K
        have hgb := hg4.block gb hG.lt (fun e => hG.ne t.l (by decide) e.symm)
        have hd := hd.block hgb
        have hG := hG.block hgb
        obtain ⟨a2, d2, e4, _⟩ := SlIn.ofRow kyE_len ho4
        have hun1 : (xl ++ [(⟨kx, ky⟩ : K2)]).length = l2 := by rw [List.length_append]; exact hl2.out
        rw [hun1] at e4
        subst e4
        have L := L.appL hi hx (a := a2) (n := l2) (c := d2) (ls := xl ++ [(⟨kx, ky⟩ : K2)]) (Kp.grown hg4) (Nx.of hob4) hun1.symm ho4
        clear t hgb hg4 hob4 ho4 hun1 hrs
        try simp only [Act.put]
        try simp only [List.setIfInBounds_toArray]
        try simp only [List.set]
        refine wpAnyH_take (i := 8) (v := ?v15) rfl (by kernel_rfl) (by kernel_rfl) (by kernel_rfl) (fun _ _ _ h => h) (Or.inl ⟨by kernel_rfl, ?h15⟩) hHeld ?_
        case h15 => intro u hSw; (obtain ⟨y0, y1⟩ := hSw.2); go_simp; try with_reducible rfl
        try simp only [List.getElem_toArray]
        try simp only [List.getElem_cons_succ]
        try simp only [List.getElem_cons_zero]
        try simp only [Act.put]
        try simp only [List.setIfInBounds_toArray]
        try simp only [List.set]
        refine wpAnyH_take (i := 9) (v := ?v16) rfl (by kernel_rfl) (by kernel_rfl) (by kernel_rfl) (fun _ _ _ h => h) (Or.inl ⟨by kernel_rfl, ?h16⟩) hHeld ?_
        case h16 => intro u hSw; (obtain ⟨y0, y1⟩ := hSw.2); go_simp; try with_reducible rfl
        try simp only [List.getElem_toArray]
        try simp only [List.getElem_cons_succ]
        try simp only [List.getElem_cons_zero]
        try simp only [Act.put]
        try simp only [List.setIfInBounds_toArray]
        try simp only [List.set]
        obtain ⟨⟨z0, z1, z2, z3⟩, zf⟩ := hd j _ hi
        dsimp only at z0 z1 z2 z3
        have f1 := zf 3 (by omega)
        have T1 : Turned gb (gb + 1) E2 (E2.setCell ⟨gb, j * 4 + 3, none⟩ (.slice a2 l2 d2)) := (Turned.refl _ _ E2).setCell (p := ⟨gb, j * 4 + 3, none⟩) (Nat.le_refl _) (Nat.lt_succ_self _) _
        have hd1 : HdC (E2.setCell ⟨gb, j * 4 + 3, none⟩ (.slice a2 l2 d2)) gb ((hs.set j (⟨hid, a1, u1, d1, hma, hmn, hmc, hla, hln, hlc⟩ : TxH)).set j (⟨hid, a1, u1, d1, hma, hmn, hmc, a2, l2, d2⟩ : TxH)) := hd.set hi ⟨by rw [cell_off (by omega)]; exact z0, by rw [cell_off (by omega)]; exact z1, by rw [cell_off (by omega)]; exact z2, by simp [go_sem, z3]⟩ (fun p hp => by rw [cell_off (by omega)]) (fun p => by rw [World.frozen?_setCell])
        have L1 := L.setBk T1 hG
        have hG1 := hG.set (j * 4 + 3) (.slice a2 l2 d2)
        refine wpAnyH_ready (rs := [10]) (by kernel_rfl) (by simp) ?_
        refine AllReadyH.cons rfl (fun K hK => ?_) AllReadyH.nil
        go_simp
        refine hK.out _ _ (⟨hHeld.1.trans (T1.toBelow hHeld.1.size hgY), hHeld.2.turned T1 (by omega)⟩) (fun hHeld => ?_)
        clear hK K T1 z0 z1 z2 z3 zf f1 hd L hG
        generalize (E2.setCell ⟨gb, j * 4 + 3, none⟩ (.slice a2 l2 d2)) = Z1 at hd1 L1 hG1 hHeld ⊢
        try simp only [Act.put]
        try simp only [List.setIfInBounds_toArray]
        try simp only [List.set]
        refine wpAnyH_done (by kernel_rfl) ?_ _
        have g9 := hHeld.1
        clear hHeld
        go_wp2_with fail
        go_meet
        case rel => exact ⟨a2, l2, d2, g9, by rw [List.set_set] at hd1; exact hd1, hG1, by rw [List.set_set, List.set_set] at L1; exact L1⟩
      · have gAl : Below D.heap.size D (D.alloc (.cells (kyE (⟨kx, ky⟩ : K2)).toArray 89)) := by go_grown
        have hrs : Rs kyE 2 (D.alloc (.cells (kyE (⟨kx, ky⟩ : K2)).toArray 89)) (some ⟨D.heap.size, 0, none⟩) [(⟨kx, ky⟩ : K2)] := rs_one (enc := kyE) D (⟨kx, ky⟩ : K2) 89
        go_simp
        refine hK.out _ _ (⟨hHeld.1.trans (gAl.mono hHeld.1.size), hHeld.2.below gAl⟩) (fun hHeld => ?_)
        clear hK K
        have hd := hd.block (gAl.block gb hG.lt)
        have hG := hG.block (gAl.block gb hG.lt)
        have L := L.below gAl
        clear gAl
        generalize D.heap.size = cb at hrs ⊢
        have eAl : D.alloc (.cells (kyE (⟨kx, ky⟩ : K2)).toArray 89) = D.alloc (.cells #[.int .i64 kx, .int .i64 ky] 89) := rfl
        try rw [eAl] at hrs
        try rw [eAl] at hd
        try rw [eAl] at hG
        try rw [eAl] at L
        try rw [eAl] at hHeld
        clear eAl
        generalize D.alloc (.cells #[.int .i64 kx, .int .i64 ky] 89) = E1 at hrs hd hG L hHeld ⊢
        try simp only [Act.put]
        try simp only [List.setIfInBounds_toArray]
        try simp only [List.set]
        refine wpAnyH_ready (rs := [4]) (by kernel_rfl) (by simp) ?_
        refine AllReadyH.cons rfl (fun K hK => ?_) AllReadyH.nil
        obtain ⟨⟨z0, z1, z2, z3⟩, zf⟩ := hd j _ hi
        dsimp only at z0 z1 z2 z3
        go_simp
        refine hK.out _ _ hHeld (fun hHeld => ?_)
        clear hK K z0 z1 z2 z3 zf
        try simp only [Act.put]
        try simp only [List.setIfInBounds_toArray]
        try simp only [List.set]
        refine wpAnyH_ready (rs := [7]) (by kernel_rfl) (by simp) ?_
        refine AllReadyH.cons rfl (fun K hK => ?_) AllReadyH.nil
        have t := L.one j _ _ hi hx
        rw [if_pos (by kernel_rfl)]
        refine wp_append_sl elKs _ _ _ rfl Y.heap.size (TxH.L (⟨hid, a1, u1, d1, hma, hmn, hmc, hla, hln, hlc⟩ : TxH)) xl [(⟨kx, ky⟩ : K2)] (some ⟨cb, 0, none⟩) 1 1 rfl rfl rfl t.l hrs (show xl.length + 1 ≤ 100000000 by omega) hHeld.1.size ?_
        intro v4 E2 ho4 hg4 hob4
        refine hK.out _ _ ⟨Below.grown hHeld.1 hg4 hHeld.1.size (fun q e => (ownsRow_lo t.l q e).1), hHeld.2.block (hg4.block yb hHeld.2.lt (fun e => hyb yb e.symm rfl))⟩ (fun hHeld => ?_)
        clear hK K
        have hgb := hg4.block gb hG.lt (fun e => hG.ne t.l (by decide) e.symm)
        have hd := hd.block hgb
        have hG := hG.block hgb
        obtain ⟨a2, d2, e4, _⟩ := SlIn.ofRow kyE_len ho4
        have hun1 : (xl ++ [(⟨kx, ky⟩ : K2)]).length = l2 := by rw [List.length_append]; exact hl2.out
        rw [hun1] at e4
        subst e4
        have L := L.appL hi hx (a := a2) (n := l2) (c := d2) (ls := xl ++ [(⟨kx, ky⟩ : K2)]) (Kp.grown hg4) (Nx.of hob4) hun1.symm ho4
        clear t hgb hg4 hob4 ho4 hun1 hrs
        try simp only [Act.put]
        try simp only [List.setIfInBounds_toArray]
        try simp only [List.set]
        refine wpAnyH_take (i := 8) (v := ?v17) rfl (by kernel_rfl) (by kernel_rfl) (by kernel_rfl) (fun _ _ _ h => h) (Or.inl ⟨by kernel_rfl, ?h17⟩) hHeld ?_
        case h17 => intro u hSw; (obtain ⟨y0, y1⟩ := hSw.2); go_simp; try with_reducible rfl
        try simp only [List.getElem_toArray]
        try simp only [List.getElem_cons_succ]
        try simp only [List.getElem_cons_zero]
        try simp only [Act.put]
        try simp only [List.setIfInBounds_toArray]
        try simp only [List.set]
        refine wpAnyH_take (i := 9) (v := ?v18) rfl (by kernel_rfl) (by kernel_rfl) (by kernel_rfl) (fun _ _ _ h => h) (Or.inl ⟨by kernel_rfl, ?h18⟩) hHeld ?_
        case h18 => intro u hSw; (obtain ⟨y0, y1⟩ := hSw.2); go_simp; try with_reducible rfl
        try simp only [List.getElem_toArray]
        try simp only [List.getElem_cons_succ]
        try simp only [List.getElem_cons_zero]
        try simp only [Act.put]
        try simp only [List.setIfInBounds_toArray]
        try simp only [List.set]
        obtain ⟨⟨z0, z1, z2, z3⟩, zf⟩ := hd j _ hi
        dsimp only at z0 z1 z2 z3
        have f1 := zf 3 (by omega)
        have T1 : Turned gb (gb + 1) E2 (E2.setCell ⟨gb, j * 4 + 3, none⟩ (.slice a2 l2 d2)) := (Turned.refl _ _ E2).setCell (p := ⟨gb, j * 4 + 3, none⟩) (Nat.le_refl _) (Nat.lt_succ_self _) _
        have hd1 : HdC (E2.setCell ⟨gb, j * 4 + 3, none⟩ (.slice a2 l2 d2)) gb ((hs.set j (⟨hid, a1, u1, d1, hma, hmn, hmc, hla, hln, hlc⟩ : TxH)).set j (⟨hid, a1, u1, d1, hma, hmn, hmc, a2, l2, d2⟩ : TxH)) := hd.set hi ⟨by rw [cell_off (by omega)]; exact z0, by rw [cell_off (by omega)]; exact z1, by rw [cell_off (by omega)]; exact z2, by simp [go_sem, z3]⟩ (fun p hp => by rw [cell_off (by omega)]) (fun p => by rw [World.frozen?_setCell])
        have L1 := L.setBk T1 hG
        have hG1 := hG.set (j * 4 + 3) (.slice a2 l2 d2)
        refine wpAnyH_ready (rs := [10]) (by kernel_rfl) (by simp) ?_
        refine AllReadyH.cons rfl (fun K hK => ?_) AllReadyH.nil
        go_simp
        refine hK.out _ _ (⟨hHeld.1.trans (T1.toBelow hHeld.1.size hgY), hHeld.2.turned T1 (by omega)⟩) (fun hHeld => ?_)
        clear hK K T1 z0 z1 z2 z3 zf f1 hd L hG
        generalize (E2.setCell ⟨gb, j * 4 + 3, none⟩ (.slice a2 l2 d2)) = Z1 at hd1 L1 hG1 hHeld ⊢
        try simp only [Act.put]
        try simp only [List.setIfInBounds_toArray]
        try simp only [List.set]
        refine wpAnyH_done (by kernel_rfl) ?_ _
        have g9 := hHeld.1
        clear hHeld
        go_wp2_with fail
        go_meet
        case rel => exact ⟨a2, l2, d2, g9, by rw [List.set_set] at hd1; exact hd1, hG1, by rw [List.set_set, List.set_set] at L1; exact L1⟩
    case rest =>
      obtain ⟨a2, l2', d2, g12, hd, hG, hL⟩ := hcut
      have HO : Hid (OwA Y.heap.size wc (some ⟨gb, 0, none⟩) (xs.set j ⟨xid, xu ++ [(⟨x0, ⟨xt, xk, xv, xst⟩, x5, ⟨yt, yk, yv, yst⟩⟩ : Chg)], xm, xl ++ [⟨kx, ky⟩]⟩)) := hL.own hd hgY (hG.lists hL)
      have hwY : w.heap.size ≤ Y.heap.size := g.size
      have g := g.trans (g12.mono g.size)
      clear hd hL HD HLs1 HI HI1 HX1 g8
      go_wp2_with fail
      refine bodyPost_ret (v := .slice (some ⟨gb, 0, none⟩) n c7) (by simp [results, Try.results75, go_sem]) rfl ?_
      rw [HW.out]
      exact ⟨gb, c7, rfl, g, HO.out.mono hwY⟩
  · have HW : Hid (withL xl kk = xl) := by have h := HW.out; show _ = _; simpa using h
    have HO : Hid (OwA Y.heap.size V9 (some ⟨gb, 0, none⟩) (xs.set j (⟨xid, xu ++ [(⟨x0, ⟨xt, xk, xv, xst⟩, x5, ⟨yt, yk, yv, yst⟩⟩ : Chg)], xm, xl⟩ : TxV))) := hL.own hd hgY (hG.lists hL)
    have hwY : w.heap.size ≤ Y.heap.size := g.size
    have g := g.trans (g8.mono g.size)
    clear hd hL HI HI1 HX1 g8
    go_wp2_with fail
    refine bodyPost_ret (v := .slice (some ⟨gb, 0, none⟩) n c7) (by simp [results, Try.results75, go_sem]) rfl ?_
    rw [HW.out]
    exact ⟨gb, c7, rfl, g, HO.out.mono hwY⟩

end Go.Proofs.Ytmboclfgldgefaa
