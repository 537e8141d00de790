/-
  DrawMayBe.
-/
import Derived.Test.YtmnnkgcknkhgdaaGreatDoorDrc
import Derived.Deep.RegionHeld
namespace Go.Proofs.YtmnnkgcknkhgdaaGreatDoor
open Go.RowKit
set_option linter.unusedVariables false

def z10 : Chg := ⟨false, ⟨0, 0, 0, ⟨#[]⟩⟩, false, ⟨0, 0, 0, ⟨#[]⟩⟩⟩
/-- What stands ahead of the return: the change in xb, the result's cells in ob, the rows. -/
structure DmS (w : World) (xb ob : Nat) (x : Chg) (v : Value) (V : World) : Prop where
  c : ChC V xb 0 x
  o : ∃ y, ChC V ob 0 y
  f : ∀ k, V.frozen? ⟨ob, k, none⟩ = false
  g : Below w.heap.size w V
  hob : w.heap.size ≤ ob
  ne : xb ≠ ob
  r : RowsG (ob + 1) 61 V v
theorem DmS.drew {w V : World} {xb ob : Nat} {x : Chg} {v : Value} (h : DmS w xb ob x v V) : DmS w xb ob x v V.drew :=
  have hb : Below V.heap.size V V.drew := ⟨rfl, rfl, rfl, Nat.le_refl _, fun _ _ => rfl⟩
  ⟨h.c.below hb h.c.lt, by obtain ⟨y, hy⟩ := h.o; exact ⟨y, hy.below hb hy.lt⟩, h.f, h.g.drew, h.hob, h.ne, h.r.below hb⟩
theorem RowsG.set {base m : Nat} {w : World} {v : Value} (h : RowsG base m w v) {p : Addr} (hp : p.block < base) (u : Value) : RowsG base m (w.setCell p u) v := by
  obtain ⟨g, cap, rs, rfl, h1, h2, h3⟩ := h
  exact ⟨g, cap, rs, rfl, h1, h2, ownsRow_setCell_below h3 hp u⟩
theorem RowsG.turn1 {base m cb : Nat} {w w' : World} {v : Value} (h : RowsG base m w v) (t : Turned cb (cb + 1) w w') (hne : v.ownBlock ≠ some cb) : RowsG base m w' v := by
  obtain ⟨g, cap, rs, rfl, h1, h2, h3⟩ := h
  exact ⟨g, cap, rs, rfl, h1, h2, ownsRow_turn1 h3 t hne⟩
theorem DmS.put {w V : World} {xb ob : Nat} {x : Chg} {v : Value} (h : DmS w xb ob x v V) (x0 : Bool) (bt bk bv : Int) (bs : ByteArray) (x5 : Bool) (at' ak av : Int) (sa : ByteArray) : DmS w xb ob x v ((((((((((V.setCell ⟨ob, 0, none⟩ (.bool x0)).setCell ⟨ob, 1, none⟩ (.int .i64 bt)).setCell ⟨ob, 2, none⟩ (.int .i64 bk)).setCell ⟨ob, 3, none⟩ (.int .i64 bv)).setCell ⟨ob, 4, none⟩ (.string bs)).setCell ⟨ob, 5, none⟩ (.bool x5)).setCell ⟨ob, 6, none⟩ (.int .i64 at')).setCell ⟨ob, 7, none⟩ (.int .i64 ak)).setCell ⟨ob, 8, none⟩ (.int .i64 av)).setCell ⟨ob, 9, none⟩ (.string sa)) := by
  obtain ⟨c, ⟨y, o⟩, f, g, hob, ne, r⟩ := h
  obtain ⟨z0, z1, z2, z3, z4, z5, z6, z7, z8, z9⟩ := c
  obtain ⟨o0, o1, o2, o3, o4, o5, o6, o7, o8, o9⟩ := o
  refine ⟨⟨by simp [go_sem, *], by simp [go_sem, *], by simp [go_sem, *], by simp [go_sem, *], by simp [go_sem, *], by simp [go_sem, *], by simp [go_sem, *], by simp [go_sem, *], by simp [go_sem, *], by simp [go_sem, *]⟩, ⟨⟨x0, ⟨bt, bk, bv, bs⟩, x5, ⟨at', ak, av, sa⟩⟩, ⟨by simp [go_sem, *], by simp [go_sem, *], by simp [go_sem, *], by simp [go_sem, *], by simp [go_sem, *], by simp [go_sem, *], by simp [go_sem, *], by simp [go_sem, *], by simp [go_sem, *], by simp [go_sem, *]⟩⟩, fun k => by simp [go_sem, f], by go_grown, hob, ne, ?_⟩
  exact ((((((((((r.set (p := ⟨ob, 0, none⟩) (Nat.lt_succ_self _) _).set (p := ⟨ob, 1, none⟩) (Nat.lt_succ_self _) _).set (p := ⟨ob, 2, none⟩) (Nat.lt_succ_self _) _).set (p := ⟨ob, 3, none⟩) (Nat.lt_succ_self _) _).set (p := ⟨ob, 4, none⟩) (Nat.lt_succ_self _) _).set (p := ⟨ob, 5, none⟩) (Nat.lt_succ_self _) _).set (p := ⟨ob, 6, none⟩) (Nat.lt_succ_self _) _).set (p := ⟨ob, 7, none⟩) (Nat.lt_succ_self _) _).set (p := ⟨ob, 8, none⟩) (Nat.lt_succ_self _) _).set (p := ⟨ob, 9, none⟩) (Nat.lt_succ_self _) _)

set_option maxRecDepth 20000 in
set_option maxHeartbeats 8000000 in
theorem drawMayBe_any (a : Option Addr) (n c : Nat) (zs : List Int) (w : World) (rd : Reads w a zs) (hn : zs.length = n) (hm : n ≤ 1048576) (hz : ∀ z ∈ zs, 0 ≤ z ∧ z ≤ 255) :
    Calls Tryz.prog 5 #[.slice a n c] w fun e w' => ∃ v x, e = .returned (.tuple #[v, chA x]) ∧ RowsG (w.heap.size + 1) 61 w' v ∧ x.b.s.size ≤ 9 ∧ x.a.s.size ≤ 9 ∧ Below w.heap.size w w' := by
  have gO : Below w.heap.size w (w.alloc (.cells #[.bool false, .int .i64 0, .int .i64 0, .int .i64 0, .string ⟨#[]⟩, .bool false, .int .i64 0, .int .i64 0, .int .i64 0, .string ⟨#[]⟩] 28)) := by go_grown
  obtain ⟨W, hW⟩ : ∃ W, W = w.alloc (.cells #[.bool false, .int .i64 0, .int .i64 0, .int .i64 0, .string ⟨#[]⟩, .bool false, .int .i64 0, .int .i64 0, .int .i64 0, .string ⟨#[]⟩] 28) := ⟨_, rfl⟩
  have O : ChC W w.heap.size 0 z10 := by rw [hW]; exact ⟨by simp [go_sem, z10], by simp [go_sem, z10], by simp [go_sem, z10], by simp [go_sem, z10], by simp [go_sem, z10], by simp [go_sem, z10], by simp [go_sem, z10], by simp [go_sem, z10], by simp [go_sem, z10], by simp [go_sem, z10]⟩
  have fO : ∀ o, W.frozen? ⟨w.heap.size, o, none⟩ = false := by intro o; rw [hW]; simp [go_sem]
  have hlo : w.heap.size < W.heap.size := by rw [hW]; simp
  rw [← hW] at gO
  have rd := rd.below gO (Nat.le_refl _)
  go_enter Tryz.func5, Tryz.ntmps5
  go_wp2_with fail
  rw [← hW]
  clear hW
  refine (l1Source_any a n c zs W rd hn hm hz).mono ?_
  rintro e w1 ⟨rfl, g1, hl1, hS1⟩
  obtain ⟨b, hb⟩ : ∃ b, b = W.heap.size := ⟨_, rfl⟩
  have hbo : w.heap.size < b := by omega
  have O := O.below g1 hlo
  have fO := froz_low g1 hlo fO
  have g := gO.trans (g1.mono gO.size)
  have hlo : w.heap.size < w1.heap.size := Nat.lt_of_lt_of_le hlo g1.size
  rw [← hb] at hS1 hl1 ⊢
  clear hb g1 gO rd
  obtain ⟨ob, hob⟩ : ∃ ob, ob = w.heap.size := ⟨_, rfl⟩
  have hob1 : w.heap.size ≤ ob := by omega
  have hob2 : ob ≤ w.heap.size := by omega
  rw [← hob] at O fO hlo hbo ⊢
  clear hob
  go_wp2_with fail
  refine (l8Bent_any b a n c zs 0 _ hS1 (by omega)).mono ?_
  rintro e w2 ⟨⟨v, rfl, hG⟩, t2, j, hj, hS2⟩
  have hj0 := hS2.i0
  have O := O.turned t2 (.inl (by omega))
  have fO := froz_src t2 hlo (.inl (by omega)) fO
  have hlo : ob < w2.heap.size := Nat.lt_of_lt_of_le hlo t2.size
  have g := g.trans (t2.toBelow g.size (by omega))
  have hG : RowsG (b + 1) 61 w2 v := hG.base (by omega)
  clear t2 hS1
  obtain ⟨rg, cap, rs, rfl, hrl, hss, ho⟩ := hG
  obtain ⟨ra, rc, e', _, hin, _⟩ := SlIn.ofRow rwE_len ho
  cases e'
  have hcon := l8Change_any b a n c zs j (some ⟨rg, 0, none⟩) rs rs.length cap w2 hS2 (by omega) rfl hrl hss hin
  have HG : Hid (RowsG (b + 1) 61 w2 (.slice (some ⟨rg, 0, none⟩) rs.length cap)) := ⟨rg, cap, rs, rfl, hrl, hss, ho⟩
  obtain ⟨v, hv⟩ : ∃ v, v = Value.slice (some ⟨rg, 0, none⟩) rs.length cap := ⟨_, rfl⟩
  rw [← hv] at hcon HG ⊢
  clear hv hrl hss ho hin hS2
  go_wp2_with fail
  refine hcon.mono ?_
  rintro e w3 ⟨⟨x, rfl, hb9, ha9⟩, t3, j3, hj3, hS3⟩
  have hj30 := hS3.i0
  have O := O.turned t3 (.inl (by omega))
  have fO := froz_src t3 hlo (.inl (by omega)) fO
  have hlo : ob < w3.heap.size := Nat.lt_of_lt_of_le hlo t3.size
  have g := g.trans (t3.toBelow g.size (by omega))
  have hG : RowsG (b + 1) 61 w3 v := HG.out.src t3 (Nat.le_refl _)
  have hGb : ∀ q, v.ownBlock = some q → q < w3.heap.size := by
    obtain ⟨g', cap', rs', rfl, _, _, ho'⟩ := hG
    exact fun q hq => (ho'.lt q hq).2
  clear t3 hcon HG
  obtain ⟨x0, ⟨bt, bk, bv, bs⟩, x5, ⟨at', ak, av, sa⟩⟩ := x
  dsimp only [chA] at hb9 ha9 ⊢
  go_upto_region 4 with (fail)
  generalize hY : World.alloc _ _ = Y
  have gY : Below w3.heap.size w3 Y := by rw [← hY]; go_grown
  have C : ChC Y w3.heap.size 0 ⟨x0, ⟨bt, bk, bv, bs⟩, x5, ⟨at', ak, av, sa⟩⟩ := by rw [← hY]; exact ⟨by simp [go_sem], by simp [go_sem], by simp [go_sem], by simp [go_sem], by simp [go_sem], by simp [go_sem], by simp [go_sem], by simp [go_sem], by simp [go_sem], by simp [go_sem]⟩
  have fC : ∀ o, Y.frozen? ⟨w3.heap.size, o, none⟩ = false := by intro o; rw [← hY]; simp [go_sem]
  have hlc : w3.heap.size < Y.heap.size := by rw [← hY]; simp
  have hS := hS3.below gY
  have O := O.below gY hlo
  have fO := froz_low gY hlo fO
  have hG := hG.below gY
  have g := g.trans (gY.mono g.size)
  have hxo : ob < w3.heap.size := hlo
  have hxb : b < w3.heap.size := hS3.lt
  have hlo : ob < Y.heap.size := Nat.lt_of_lt_of_le hlo gY.size
  clear hY gY hS3
  generalize w3.heap.size = xb at C fC hlc hxo hxb hGb ⊢
  go_wp2_with fail
  refine (l1Chance_any b a n c zs j3 10 _ hS (by omega) (by omega) (by omega)).mono ?_
  rintro e w4 ⟨⟨z, rfl⟩, t4, hS4⟩
  have C := C.turned t4 (.inr (by omega))
  have fC := froz_src t4 hlc (.inr (by omega)) fC
  have O := O.turned t4 (.inl (by omega))
  have fO := froz_src t4 hlo (.inl (by omega)) fO
  have hlo : ob < w4.heap.size := Nat.lt_of_lt_of_le hlo t4.size
  have hlc : xb < w4.heap.size := Nat.lt_of_lt_of_le hlc t4.size
  have g := g.trans (t4.toBelow g.size (by omega))
  have hG := hG.src t4 (Nat.le_refl _)
  clear t4 hS
  cases z
  · have H : DmS w xb ob ⟨x0, ⟨bt, bk, bv, bs⟩, x5, ⟨at', ak, av, sa⟩⟩ v w4 := ⟨C, ⟨_, O⟩, fO, g, hob1, by omega, hG.base (by omega)⟩
    clear C fC O fO g hG hGb hS4 hlo hlc
    go_upto_region 6 with (fail)
    refine wp_region_held_drew (S := DmS w xb ob ⟨x0, ⟨bt, bk, bv, bs⟩, x5, ⟨at', ak, av, sa⟩⟩ v) (by kernel_rfl) H.drew (fun hHeld => ?_)
    generalize w4.drew = D at hHeld ⊢
    clear H
    obtain ⟨yy, hyy⟩ := hHeld.o
    refine wpAnyH_take (i := 0) (v := ?v1) rfl (by kernel_rfl) (by kernel_rfl) (by kernel_rfl) (fun _ _ _ h => h) (Or.inl ⟨by kernel_rfl, ?h1⟩) hHeld ?_
    case h1 => intro u hSw; clear hSw; go_simp; try with_reducible rfl
    try simp only [List.getElem_toArray]
    try simp only [List.getElem_cons_succ]
    try simp only [List.getElem_cons_zero]
    try simp only [Act.put]
    try simp only [List.setIfInBounds_toArray]
    try simp only [List.set]
    refine wpAnyH_take (i := 1) (v := ?v2) rfl (by kernel_rfl) (by kernel_rfl) (by kernel_rfl) (fun _ _ _ h => h) (Or.inl ⟨by kernel_rfl, ?h2⟩) hHeld ?_
    case h2 => intro u hSw; (obtain ⟨z0, z1, z2, z3, z4, z5, z6, z7, z8, z9⟩ := hSw.c; dsimp only at z0 z1 z2 z3 z4 z5 z6 z7 z8 z9); clear hSw; go_simp; try with_reducible rfl
    try simp only [List.getElem_toArray]
    try simp only [List.getElem_cons_succ]
    try simp only [List.getElem_cons_zero]
    try simp only [Act.put]
    try simp only [List.setIfInBounds_toArray]
    try simp only [List.set]
    refine wpAnyH_take (i := 2) (v := ?v3) rfl (by kernel_rfl) (by kernel_rfl) (by kernel_rfl) (fun _ _ _ h => h) (Or.inl ⟨by kernel_rfl, ?h3⟩) hHeld ?_
    case h3 => intro u hSw; clear hSw; go_simp; try with_reducible rfl
    try simp only [List.getElem_toArray]
    try simp only [List.getElem_cons_succ]
    try simp only [List.getElem_cons_zero]
    try simp only [Act.put]
    try simp only [List.setIfInBounds_toArray]
    try simp only [List.set]
    obtain ⟨o0, o1, o2, o3, o4, o5, o6, o7, o8, o9⟩ := hyy
    have q0 := hHeld.f 0
    have q1 := hHeld.f 1
    have q2 := hHeld.f 2
    have q3 := hHeld.f 3
    have q4 := hHeld.f 4
    have q5 := hHeld.f 5
    have q6 := hHeld.f 6
    have q7 := hHeld.f 7
    have q8 := hHeld.f 8
    have q9 := hHeld.f 9
    have hgg := hHeld.g
    have hob := hHeld.hob
    have hne := hHeld.ne
    try dsimp only at o0 o1 o2 o3 o4 o5 o6 o7 o8 o9
    refine wpAnyH_ready (rs := [3]) (by kernel_rfl) (by simp) ?_
    refine AllReadyH.cons rfl (fun K hK => ?_) AllReadyH.nil
    go_simp
    go_wp2_with fail
    refine hK.out _ _ (hHeld.put x0 bt bk bv bs x5 at' ak av sa) (fun hHeld2 => ?_)
    clear hK K
    try simp only [Act.put]
    try simp only [List.setIfInBounds_toArray]
    try simp only [List.set]
    refine wpAnyH_done (by kernel_rfl) ?_ _
    have gF := hHeld2.g
    have HG2 := hHeld2.r.base (show w.heap.size + 1 ≤ ob + 1 by omega)
    go_wp2_with fail
    refine bodyPost_ret (v := .tuple #[v, .agg #[.bool x0, .int .i64 bt, .int .i64 bk, .int .i64 bv, .string bs, .bool x5, .int .i64 at', .int .i64 ak, .int .i64 av, .string sa]]) (by simp [results, Tryz.results5, go_sem, *]) rfl ?_
    exact ⟨v, ⟨x0, ⟨bt, bk, bv, bs⟩, x5, ⟨at', ak, av, sa⟩⟩, rfl, HG2, hb9, ha9, gF⟩
  · go_wp2_with fail
    refine (l1Bent_any b a n c zs (j3 + 1) _ hS4 (by omega)).mono ?_
    rintro e w5 ⟨⟨nt, nk, nv, ns, rfl, hns⟩, t5, j5, hj5, hS5⟩
    have C := C.turned t5 (.inr (by omega))
    have fC := froz_src t5 hlc (.inr (by omega)) fC
    have O := O.turned t5 (.inl (by omega))
    have fO := froz_src t5 hlo (.inl (by omega)) fO
    have hlo : ob < w5.heap.size := Nat.lt_of_lt_of_le hlo t5.size
    have hlc : xb < w5.heap.size := Nat.lt_of_lt_of_le hlc t5.size
    have g := g.trans (t5.toBelow g.size (by omega))
    have hG := hG.src t5 (Nat.le_refl _)
    clear t5 hS4 hS5
    obtain ⟨z0, z1, z2, z3, z4, z5, z6, z7, z8, z9⟩ := C
    have f6 := fC 6
    have f7 := fC 7
    have f8 := fC 8
    have f9 := fC 9
    dsimp only at z0 z1 z2 z3 z4 z5 z6 z7 z8 z9
    go_upto_region 6 with (fail)
    generalize hU : World.setCell _ _ _ = U
    have C : ChC U xb 0 ⟨x0, ⟨bt, bk, bv, bs⟩, x5, ⟨nt, nk, nv, ns⟩⟩ := by rw [← hU]; clear hU; exact ⟨by simp [go_sem, *], by simp [go_sem, *], by simp [go_sem, *], by simp [go_sem, *], by simp [go_sem, *], by simp [go_sem, *], by simp [go_sem, *], by simp [go_sem, *], by simp [go_sem, *], by simp [go_sem, *]⟩
    have tU : Turned xb (xb + 1) w5 U := by rw [← hU]; exact (((((Turned.refl _ _ _).setCell (p := ⟨xb, 6, none⟩) (Nat.le_refl _) (Nat.lt_succ_self _) _).setCell (p := ⟨xb, 7, none⟩) (Nat.le_refl _) (Nat.lt_succ_self _) _).setCell (p := ⟨xb, 8, none⟩) (Nat.le_refl _) (Nat.lt_succ_self _) _).setCell (p := ⟨xb, 9, none⟩) (Nat.le_refl _) (Nat.lt_succ_self _) _)
    have O := O.turned tU (.inl (by omega))
    have fO := froz_src tU hlo (.inl (by omega)) fO
    have g := g.trans (tU.toBelow g.size (by omega))
    have hG := hG.turn1 tU (fun h => absurd (hGb _ h) (by omega))
    clear hU tU z0 z1 z2 z3 z4 z5 z6 z7 z8 z9 f6 f7 f8 f9 fC ha9
    have ha9 := hns
    have H : DmS w xb ob ⟨x0, ⟨bt, bk, bv, bs⟩, x5, ⟨nt, nk, nv, ns⟩⟩ v U := ⟨C, ⟨_, O⟩, fO, g, hob1, by omega, hG.base (by omega)⟩
    clear C O fO g hG hGb hlo hlc hns
    refine wp_region_held_drew (S := DmS w xb ob ⟨x0, ⟨bt, bk, bv, bs⟩, x5, ⟨nt, nk, nv, ns⟩⟩ v) (by kernel_rfl) H.drew (fun hHeld => ?_)
    generalize U.drew = D at hHeld ⊢
    clear H
    obtain ⟨yy, hyy⟩ := hHeld.o
    refine wpAnyH_take (i := 0) (v := ?v4) rfl (by kernel_rfl) (by kernel_rfl) (by kernel_rfl) (fun _ _ _ h => h) (Or.inl ⟨by kernel_rfl, ?h4⟩) hHeld ?_
    case h4 => intro u hSw; clear hSw; go_simp; try with_reducible rfl
    try simp only [List.getElem_toArray]
    try simp only [List.getElem_cons_succ]
    try simp only [List.getElem_cons_zero]
    try simp only [Act.put]
    try simp only [List.setIfInBounds_toArray]
    try simp only [List.set]
    refine wpAnyH_take (i := 1) (v := ?v5) rfl (by kernel_rfl) (by kernel_rfl) (by kernel_rfl) (fun _ _ _ h => h) (Or.inl ⟨by kernel_rfl, ?h5⟩) hHeld ?_
    case h5 => intro u hSw; (obtain ⟨z0, z1, z2, z3, z4, z5, z6, z7, z8, z9⟩ := hSw.c; dsimp only at z0 z1 z2 z3 z4 z5 z6 z7 z8 z9); clear hSw; go_simp; try with_reducible rfl
    try simp only [List.getElem_toArray]
    try simp only [List.getElem_cons_succ]
    try simp only [List.getElem_cons_zero]
    try simp only [Act.put]
    try simp only [List.setIfInBounds_toArray]
    try simp only [List.set]
    refine wpAnyH_take (i := 2) (v := ?v6) rfl (by kernel_rfl) (by kernel_rfl) (by kernel_rfl) (fun _ _ _ h => h) (Or.inl ⟨by kernel_rfl, ?h6⟩) hHeld ?_
    case h6 => intro u hSw; clear hSw; go_simp; try with_reducible rfl
    try simp only [List.getElem_toArray]
    try simp only [List.getElem_cons_succ]
    try simp only [List.getElem_cons_zero]
    try simp only [Act.put]
    try simp only [List.setIfInBounds_toArray]
    try simp only [List.set]
    obtain ⟨o0, o1, o2, o3, o4, o5, o6, o7, o8, o9⟩ := hyy
    have q0 := hHeld.f 0
    have q1 := hHeld.f 1
    have q2 := hHeld.f 2
    have q3 := hHeld.f 3
    have q4 := hHeld.f 4
    have q5 := hHeld.f 5
    have q6 := hHeld.f 6
    have q7 := hHeld.f 7
    have q8 := hHeld.f 8
    have q9 := hHeld.f 9
    have hgg := hHeld.g
    have hob := hHeld.hob
    have hne := hHeld.ne
    try dsimp only at o0 o1 o2 o3 o4 o5 o6 o7 o8 o9
    refine wpAnyH_ready (rs := [3]) (by kernel_rfl) (by simp) ?_
    refine AllReadyH.cons rfl (fun K hK => ?_) AllReadyH.nil
    go_simp
    go_wp2_with fail
    refine hK.out _ _ (hHeld.put x0 bt bk bv bs x5 nt nk nv ns) (fun hHeld2 => ?_)
    clear hK K
    try simp only [Act.put]
    try simp only [List.setIfInBounds_toArray]
    try simp only [List.set]
    refine wpAnyH_done (by kernel_rfl) ?_ _
    have gF := hHeld2.g
    have HG2 := hHeld2.r.base (show w.heap.size + 1 ≤ ob + 1 by omega)
    go_wp2_with fail
    refine bodyPost_ret (v := .tuple #[v, .agg #[.bool x0, .int .i64 bt, .int .i64 bk, .int .i64 bv, .string bs, .bool x5, .int .i64 nt, .int .i64 nk, .int .i64 nv, .string ns]]) (by simp [results, Tryz.results5, go_sem, *]) rfl ?_
    exact ⟨v, ⟨x0, ⟨bt, bk, bv, bs⟩, x5, ⟨nt, nk, nv, ns⟩⟩, rfl, HG2, hb9, ha9, gF⟩

end Go.Proofs.YtmnnkgcknkhgdaaGreatDoor

