/-
  The program's foldOf, and the changes of a fold.
-/
import Derived.Test.YtmbllmhpnopbdaaFFFcj

namespace Go.Proofs.Ytmbllmhpnopbdaa
open Go.RowKit Go.Maps
set_option linter.unusedVariables false
set_option maxRecDepth 20000

/-- A fold: its number, and its map. -/
structure FoC (W : World) (fb mb : Nat) (tx : Int) : Prop where
  c0 : W.cell? ⟨fb, 0, none⟩ = some (.int .i64 tx)
  c1 : W.cell? ⟨fb, 1, none⟩ = some (.map (some mb))
theorem FoC.lt {W : World} {fb mb : Nat} {tx : Int} (h : FoC W fb mb tx) : fb < W.heap.size := World.block_lt_of_cell? W _ h.c0
theorem FoC.below {W W' : World} {fb mb : Nat} {tx : Int} (h : FoC W fb mb tx) (hb : Below W.heap.size W W') : FoC W' fb mb tx := ⟨(hb.cell h.lt).trans h.c0, (hb.cell (p := ⟨fb, 1, none⟩) h.lt).trans h.c1⟩
theorem FoC.turn {W W' : World} {fb mb : Nat} {tx : Int} (h : FoC W fb mb tx) {b : Nat} (ht : W.mapTurned W' b) : FoC W' fb mb tx := ⟨cell_turn ht h.c0, cell_turn ht h.c1⟩

/-- Changes by their keys, as values. -/
def fKV (f : Int → Int → Option Chg) : Int → Int → Option Value := fun x y => (f x y).map chV
theorem fKV_upd (f : Int → Int → Option Chg) (x y : Int) (o : Option Chg) : upd (fKV f) x y (o.map chV) = fKV (updC f x y o) := by
  funext a b
  unfold upd fKV updC
  split <;> rfl
theorem fK_snoc (cs : List Chg) (z : Chg) (x y : Int) : fK (cs ++ [z]) x y = (fK cs x y).or (if kT z = x ∧ kK z = y then some z else none) := by
  induction cs with
  | nil => rw [List.nil_append, fK_cons, fK_nil]; simp
  | cons a l ih =>
    rw [List.cons_append, fK_cons, fK_cons, ih]
    by_cases h : kT a = x ∧ kK a = y
    · rw [if_pos h, if_pos h]; rfl
    · rw [if_neg h, if_neg h]
theorem fKV_step {cs : List Chg} (hs : cs.Pairwise (fun a b => kLt a b = true)) {j : Nat} {c : Chg} (hx : cs[j]? = some c) : upd (fKV (fK (cs.take j))) (kT c) (kK c) (some (chV c)) = fKV (fK (cs.take (j + 1))) := by
  have hn : fK (cs.take j) (kT c) (kK c) = none := fK_none fun z hz e => by
    obtain ⟨i, hi⟩ := List.getElem?_of_mem hz
    have hij : i < j := by
      have := (List.getElem?_eq_some_iff.1 hi).1
      rw [List.length_take] at this
      omega
    rw [List.getElem?_take, if_pos hij] at hi
    have hil := List.getElem?_eq_some_iff.1 hi
    have hjl := List.getElem?_eq_some_iff.1 hx
    have := List.pairwise_iff_getElem.1 hs i j hil.1 hjl.1 hij
    rw [hil.2, hjl.2, kLt_iff] at this
    omega
  rw [show some (chV c) = (some c).map chV from rfl, fKV_upd]
  congr 1
  funext x y
  rw [take_snoc hx, fK_snoc]
  unfold updC
  by_cases h : x = kT c ∧ y = kK c
  · obtain ⟨rfl, rfl⟩ := h
    rw [if_pos ⟨rfl, rfl⟩, hn, if_pos ⟨rfl, rfl⟩]; rfl
  · rw [if_neg h, if_neg (fun e => h ⟨e.1.symm, e.2.symm⟩), Option.or_none]

/-- What foldOf hands back. -/
def FoPost (f : Int → Int → Option Chg) (tx : Int) (m : Nat) (w : World) (e : Ending) (w' : World) : Prop := ∃ fb mb sz, e = .returned (.pointer (some ⟨fb, 0, none⟩)) ∧ Below w.heap.size w w' ∧ FoC w' fb mb tx ∧ MapF 65 w' mb (fKV f) sz ∧ sz ≤ m ∧ w.heap.size ≤ mb ∧ w.heap.size ≤ fb

set_option maxHeartbeats 8000000 in
theorem foldOf_any (tx : Int) (a : Option Addr) (cs : List Chg) (n c : Nat) (w : World) (hn : cs.length = n) (hm : n ≤ 60) (hs : ∀ x ∈ cs, x.b.s.size ≤ 1048576 ∧ x.a.s.size ≤ 1048576) (hk : ∀ x ∈ cs, Kw (kT x) (kK x)) (hp : cs.Pairwise (fun a b => kLt a b = true)) (hr : Rs chE 10 w a cs) :
    Calls Try.prog 21 #[.int .i64 tx, .slice a n c] w fun e w' => FoPost (fK cs) tx n w e w' := by
  have hmm := @run_makeMap Try.prog
  have HN : Hid (cs.length = n) := hn
  have HK : Hid (∀ x ∈ cs, (x.b.s.size ≤ 1048576 ∧ x.a.s.size ≤ 1048576) ∧ Kw (kT x) (kK x)) := fun x hx => ⟨hs x hx, hk x hx⟩
  have HP : Hid (cs.Pairwise (fun a b => kLt a b = true)) := hp
  have HR : Hid (Rs chE 10 w a cs) := hr
  have hk4 : MapF 65 (w.alloc (.map #[] 0)) w.heap.size (fKV (fK [])) 0 := MapF.made _ _
  have gA : Below w.heap.size w (w.alloc (.map #[] 0)) := by go_grown
  clear hn hs hk hp hr
  go_enter Try.func21, Try.ntmps21
  go_upto_region 2 with (fail)
  have gB : Below (w.alloc (.map #[] 0)).heap.size (w.alloc (.map #[] 0)) ((w.alloc (.map #[] 0)).alloc (.cells #[.int .i64 tx, .map (some w.heap.size)] 79)) := by go_grown
  have hF : FoC ((w.alloc (.map #[] 0)).alloc (.cells #[.int .i64 tx, .map (some w.heap.size)] 79)) (w.heap.size + 1) w.heap.size tx := ⟨by simp [go_sem], by simp [go_sem]⟩
  have hk4 := hk4.below gB
  have g := gA.trans (gB.mono gA.size)
  clear gA gB
  generalize (w.alloc (.map #[] 0)).alloc (.cells #[.int .i64 tx, .map (some w.heap.size)] 79) = X at hF hk4 g ⊢
  obtain ⟨fb, hfb⟩ : ∃ fb, w.heap.size + 1 = fb := ⟨_, rfl⟩
  have hfbw : w.heap.size ≤ fb := by omega
  rw [hfb] at hF
  simp only [hfb]
  clear hfb
  obtain ⟨mb, hmb⟩ : ∃ mb, w.heap.size = mb := ⟨_, rfl⟩
  have hmbw : w.heap.size ≤ mb := by omega
  rw [hmb] at hF hk4
  try simp only [hmb]
  clear hmb
  go_wp2_with fail
  go_loopw [14] (fun i wr => ∃ (j sz : Nat), j ≤ n ∧ i = .int .i64 j ∧ sz ≤ j ∧ Below w.heap.size w wr ∧ FoC wr fb mb tx ∧ MapF 65 wr mb (fKV (fK (cs.take j))) sz) (fun i _ => n - (intOf i).toNat)
  case atStart => exact ⟨0, 0, Nat.zero_le _, rfl, Nat.le_refl _, g, hF, hk4⟩
  case round =>
    clear g hF hk4
    obtain ⟨j, sz, hj, rfl, hszj, g, hF, hK1⟩ := hrel
    by_cases hlt : j < n
    · obtain ⟨x, hx⟩ : ∃ x, cs[j]? = some x := ⟨_, List.getElem?_eq_getElem (by rw [HN.out]; exact hlt)⟩
      obtain ⟨b, off, rfl⟩ : ∃ b off, a = some ⟨b, off, none⟩ := by
        obtain ⟨b, off, e, _⟩ := HR.out.chg hx
        exact ⟨b, off, e⟩
      have E : ChC wr b (off + j * 10) x := by
        have h1 := HR.out.chgAt hx
        exact h1.below g h1.lt
      obtain ⟨⟨hz1, hz2⟩, hkw⟩ := HK.out x (List.mem_of_getElem? hx)
      have hKw : Hid (Kw (kT x) (kK x)) := hkw
      have HT : Hid (upd (fKV (fK (cs.take j))) (kT x) (kK x) (some (chV x)) = fKV (fK (cs.take (j + 1)))) := fKV_step HP.out hx
      have hjn : (j : Int) < (n : Int) := by omega
      clear hx hkw
      obtain ⟨x0, ⟨bt, bk, bv, bs⟩, x5, ⟨at', ak, av, sa⟩⟩ := x
      have HOc : Hid (∀ V, Calls Try.prog 23 #[.agg #[.bool x0, .int .i64 bt, .int .i64 bk, .int .i64 bv, .string bs, .bool x5, .int .i64 at', .int .i64 ak, .int .i64 av, .string sa]] V fun e w' => e = .returned (.agg #[.bool x0, .int .i64 bt, .int .i64 bk, .int .i64 bv, .string bs, .bool x5, .int .i64 at', .int .i64 ak, .int .i64 av, .string sa]) ∧ Below V.heap.size V w') := fun V => ownChange_any x0 bt bk bv bs x5 at' ak av sa V hz1 hz2
      have HCk : Hid (∀ V, Calls Try.prog 37 #[.agg #[.bool x0, .int .i64 bt, .int .i64 bk, .int .i64 bv, .string bs, .bool x5, .int .i64 at', .int .i64 ak, .int .i64 av, .string sa]] V fun e w' => e = .returned (.agg #[.int .i64 (kT (⟨x0, ⟨bt, bk, bv, bs⟩, x5, ⟨at', ak, av, sa⟩⟩ : Chg)), .int .i64 (kK (⟨x0, ⟨bt, bk, bv, bs⟩, x5, ⟨at', ak, av, sa⟩⟩ : Chg))]) ∧ Below V.heap.size V w') := fun V => changedKey_any (⟨x0, ⟨bt, bk, bv, bs⟩, x5, ⟨at', ak, av, sa⟩⟩ : Chg) V
      have HT : Hid (upd (fKV (fK (cs.take j))) (kT (⟨x0, ⟨bt, bk, bv, bs⟩, x5, ⟨at', ak, av, sa⟩⟩ : Chg)) (kK (⟨x0, ⟨bt, bk, bv, bs⟩, x5, ⟨at', ak, av, sa⟩⟩ : Chg)) (some (.agg #[.bool x0, .int .i64 bt, .int .i64 bk, .int .i64 bv, .string bs, .bool x5, .int .i64 at', .int .i64 ak, .int .i64 av, .string sa])) = fKV (fK (cs.take (j + 1)))) := HT
      generalize kT (⟨x0, ⟨bt, bk, bv, bs⟩, x5, ⟨at', ak, av, sa⟩⟩ : Chg) = xt at HCk HT hKw
      generalize kK (⟨x0, ⟨bt, bk, bv, bs⟩, x5, ⟨at', ak, av, sa⟩⟩ : Chg) = xk at HCk HT hKw
      obtain ⟨e0, e1, e2, e3, e4, e5, e6, e7, e8, e9⟩ := E
      dsimp only at e0 e1 e2 e3 e4 e5 e6 e7 e8 e9 hz1 hz2
      go_upto_region 5 with (fail)
      generalize hY : World.alloc _ _ = Y
      have gY : Below wr.heap.size wr Y := by rw [← hY]; go_grown
      have Z : ChC Y wr.heap.size 0 (⟨x0, ⟨bt, bk, bv, bs⟩, x5, ⟨at', ak, av, sa⟩⟩ : Chg) := by rw [← hY]; exact ⟨by simp [go_sem], by simp [go_sem], by simp [go_sem], by simp [go_sem], by simp [go_sem], by simp [go_sem], by simp [go_sem], by simp [go_sem], by simp [go_sem], by simp [go_sem]⟩
      have g := g.trans (gY.mono g.size)
      have hF := hF.below gY
      have hK1 := hK1.below gY
      clear hY gY e0 e1 e2 e3 e4 e5 e6 e7 e8 e9 hz1 hz2
      generalize wr.heap.size = xb at Z ⊢
      have hS0 : ChC Y.drew xb 0 (⟨x0, ⟨bt, bk, bv, bs⟩, x5, ⟨at', ak, av, sa⟩⟩ : Chg) ∧ FoC Y.drew fb mb tx ∧ Below w.heap.size w Y.drew := ⟨Z.below (Below.refl _ _).drew Z.lt, hF.below (Below.refl _ _).drew, g.drew⟩
      refine wp_region_held_drew (S := fun V => ChC V xb 0 (⟨x0, ⟨bt, bk, bv, bs⟩, x5, ⟨at', ak, av, sa⟩⟩ : Chg) ∧ FoC V fb mb tx ∧ Below w.heap.size w V) (by kernel_rfl) hS0 (fun hHeld => ?_)
      have hK1 := hK1.below (Below.refl _ _).drew
      clear hS0 Z hF g
      generalize Y.drew = D at hHeld hK1 ⊢
      refine wpAnyH_take (i := 0) (v := ?v1) rfl (by kernel_rfl) (by kernel_rfl) (by kernel_rfl) (fun _ _ _ h => h) (Or.inl ⟨by kernel_rfl, ?h1⟩) hHeld ?_
      case h1 => intro u hSw; clear hSw; go_simp; try with_reducible rfl
      try simp only [List.getElem_toArray]
      try simp only [List.getElem_cons_succ]
      try simp only [List.getElem_cons_zero]
      try simp only [Act.put]
      try simp only [List.setIfInBounds_toArray]
      try simp only [List.set]
      refine wpAnyH_take (i := 1) (v := ?v2) rfl (by kernel_rfl) (by kernel_rfl) (by kernel_rfl) (fun _ _ _ h => h) (Or.inl ⟨by kernel_rfl, ?h2⟩) hHeld ?_
      case h2 => intro u hSw; clear hSw; go_simp; try with_reducible rfl
      try simp only [List.getElem_toArray]
      try simp only [List.getElem_cons_succ]
      try simp only [List.getElem_cons_zero]
      try simp only [Act.put]
      try simp only [List.setIfInBounds_toArray]
      try simp only [List.set]
      refine wpAnyH_take (i := 2) (v := ?v3) rfl (by kernel_rfl) (by kernel_rfl) (by kernel_rfl) (fun _ _ _ h => h) (Or.inl ⟨by kernel_rfl, ?h3⟩) hHeld ?_
      case h3 => intro u hSw; clear hSw; go_simp; try with_reducible rfl
      try simp only [List.getElem_toArray]
      try simp only [List.getElem_cons_succ]
      try simp only [List.getElem_cons_zero]
      try simp only [Act.put]
      try simp only [List.setIfInBounds_toArray]
      try simp only [List.set]
      refine wpAnyH_take (i := 3) (v := ?v4) rfl (by kernel_rfl) (by kernel_rfl) (by kernel_rfl) (fun _ _ _ h => h) (Or.inl ⟨by kernel_rfl, ?h4⟩) hHeld ?_
      case h4 => intro u hSw; (obtain ⟨fo0, fo1⟩ := hSw.2.1); clear hSw; go_simp; try with_reducible rfl
      try simp only [List.getElem_toArray]
      try simp only [List.getElem_cons_succ]
      try simp only [List.getElem_cons_zero]
      try simp only [Act.put]
      try simp only [List.setIfInBounds_toArray]
      try simp only [List.set]
      refine wpAnyH_take (i := 4) (v := ?v5) rfl (by kernel_rfl) (by kernel_rfl) (by kernel_rfl) (fun _ _ _ h => h) (Or.inl ⟨by kernel_rfl, ?h5⟩) hHeld ?_
      case h5 => intro u hSw; (obtain ⟨z0, z1, z2, z3, z4, z5, z6, z7, z8, z9⟩ := hSw.1); dsimp only at z0 z1 z2 z3 z4 z5 z6 z7 z8 z9; clear hSw; go_simp; try with_reducible rfl
      try simp only [List.getElem_toArray]
      try simp only [List.getElem_cons_succ]
      try simp only [List.getElem_cons_zero]
      try simp only [Act.put]
      try simp only [List.setIfInBounds_toArray]
      try simp only [List.set]
      refine wpAnyH_take (i := 6) (v := ?v6) rfl (by kernel_rfl) (by kernel_rfl) (by kernel_rfl) (fun _ _ _ h => h) (Or.inl ⟨by kernel_rfl, ?h6⟩) hHeld ?_
      case h6 => intro u hSw; (obtain ⟨z0, z1, z2, z3, z4, z5, z6, z7, z8, z9⟩ := hSw.1); dsimp only at z0 z1 z2 z3 z4 z5 z6 z7 z8 z9; clear hSw; go_simp; try with_reducible rfl
      try simp only [List.getElem_toArray]
      try simp only [List.getElem_cons_succ]
      try simp only [List.getElem_cons_zero]
      try simp only [Act.put]
      try simp only [List.setIfInBounds_toArray]
      try simp only [List.set]
      refine wpAnyH_ready (rs := [5]) (by kernel_rfl) (by simp) ?_
      refine AllReadyH.cons rfl (fun K hK => ?_) AllReadyH.nil
      go_simp
      go_wp2_with (go_at_call 37; refine (HCk.out _).mono ?_; rintro e W5 ⟨rfl, gg⟩)
      refine hK.out _ _ (⟨hHeld.1.below gg hHeld.1.lt, hHeld.2.1.below gg, hHeld.2.2.trans (gg.mono hHeld.2.2.size)⟩) (fun hHeld => ?_)
      clear hK K
      have hK1 := hK1.below gg
      clear gg
      try simp only [Act.put]
      try simp only [List.setIfInBounds_toArray]
      try simp only [List.set]
      refine wpAnyH_ready (rs := [7]) (by kernel_rfl) (by simp) ?_
      refine AllReadyH.cons rfl (fun K hK => ?_) AllReadyH.nil
      go_simp
      go_wp2_with (go_at_call 23; refine (HOc.out _).mono ?_; rintro e W7 ⟨rfl, gg⟩)
      refine hK.out _ _ (⟨hHeld.1.below gg hHeld.1.lt, hHeld.2.1.below gg, hHeld.2.2.trans (gg.mono hHeld.2.2.size)⟩) (fun hHeld => ?_)
      clear hK K
      have hK1 := hK1.below gg
      clear gg
      try simp only [Act.put]
      try simp only [List.setIfInBounds_toArray]
      try simp only [List.set]
      obtain ⟨W8, e8, m8, t8⟩ := hK1.store keyT73 Try.underlying77 hKw.out (.agg #[.bool x0, .int .i64 bt, .int .i64 bk, .int .i64 bv, .string bs, .bool x5, .int .i64 at', .int .i64 ak, .int .i64 av, .string sa]) (by omega)
      simp only [kv] at e8
      have hlt1 := hK1.lt
      have gT := turned_below t8 hmbw hlt1
      refine wpAnyH_ready (rs := [8]) (by kernel_rfl) (by simp) ?_
      refine AllReadyH.cons rfl (fun K hK => ?_) AllReadyH.nil
      go_simp
      refine hK.out _ _ ⟨hHeld.1.turn t8, hHeld.2.1.turn t8, hHeld.2.2.trans gT⟩ (fun hHeld => ?_)
      clear hK K e8
      try simp only [Act.put]
      try simp only [List.setIfInBounds_toArray]
      try simp only [List.set]
      refine wpAnyH_done (by kernel_rfl) ?_ _
      have g2 := hHeld.2.2
      have hF2 := hHeld.2.1
      have hK2 : MapF 65 W8 mb (fKV (fK (cs.take (j + 1)))) (nSz (fKV (fK (cs.take j)) xt xk) sz) := by rw [← HT.out]; exact m8
      have hsz2 : nSz (fKV (fK (cs.take j)) xt xk) sz ≤ j + 1 := by have := nSz_le (fKV (fK (cs.take j)) xt xk) sz; omega
      clear hHeld m8 t8 gT hK1
      go_wp2_with fail
      go_roundw
      case rel => exact ⟨j + 1, _, by omega, by go_num, hsz2, g2, hF2, hK2⟩
      case measure => simp [intOf]; omega
    · have e : cs.take j = cs := List.take_of_length_le (by rw [HN.out]; omega)
      rw [e] at hK1
      have hjn : ¬ (j : Int) < (n : Int) := by omega
      have HFin : Hid (FoPost (fK cs) tx n w (.returned (.pointer (some ⟨fb, 0, none⟩))) wr) := ⟨fb, mb, sz, rfl, g, hF, hK1, by omega, hmbw, hfbw⟩
      clear hK1 hF g e
      go_wp2_with fail
      go_ret
      exact HFin.out

/-- What the changes of a fold are. -/
def ChPost (F : Int → Int → Option Chg) (w : World) (e : Ending) (w' : World) : Prop :=
  ∃ v cs ys, e = .returned v ∧ Below w.heap.size w w' ∧ w'.ownsRow w.heap.size 28 10 v cs.length (flat chE cs) ∧ Rise ys ∧ ys.Nodup ∧ (∀ x : K3, x ∈ ys ↔ (F x.x x.y).isSome = true) ∧ cs.map some = ys.map fun x => F x.x x.y
theorem chPost_mk {F : Int → Int → Option Chg} {w wr : World} {v : Value} {ys : List K3} (g : Below w.heap.size w wr) (ho : wr.ownsRow w.heap.size 28 10 v (ys.map (fun x => (F x.x x.y).getD zCh)).length (flat chE (ys.map (fun x => (F x.x x.y).getD zCh)))) (hr : Rise ys) (hd : ys.Nodup) (hM : ∀ x : K3, x ∈ ys ↔ (F x.x x.y).isSome = true) : ChPost F w (.returned v) wr := by
  refine ⟨v, _, ys, rfl, g, ho, hr, hd, hM, ?_⟩
  rw [List.map_map]
  refine List.map_congr_left fun x hx => ?_
  have h1 := (hM x).1 hx
  cases hy : F x.x x.y with
  | none => rw [hy] at h1; cases h1
  | some y => simp [hy]

/-- A key that is kept. -/
structure LkS (w4 : World) (cb : Nat) (xt xk : Int) (V : World) : Prop where
  k0 : V.cell? ⟨cb, 0, none⟩ = some (.int .i64 xt)
  k1 : V.cell? ⟨cb, 1, none⟩ = some (.int .i64 xk)
  g : Below w4.heap.size w4 V
theorem LkS.lt {w4 V : World} {cb : Nat} {xt xk : Int} (h : LkS w4 cb xt xk V) : cb < V.heap.size := World.block_lt_of_cell? V _ h.k0
theorem LkS.up {w4 V V' : World} {cb : Nat} {xt xk : Int} (h : LkS w4 cb xt xk V) (hb : Below V.heap.size V V') : LkS w4 cb xt xk V' := ⟨(hb.cell h.lt).trans h.k0, (hb.cell (p := ⟨cb, 1, none⟩) h.lt).trans h.k1, h.g.trans (hb.mono h.g.size)⟩
theorem LkS.grow {w4 V V' : World} {cb : Nat} {xt xk : Int} (h : LkS w4 cb xt xk V) {row : Option Nat} (hg : V.grownBy V' row) (hl : ∀ k, row = some k → w4.heap.size ≤ k) (hn : row ≠ some cb) : LkS w4 cb xt xk V' := ⟨hg.cell h.k0 (fun e => hn e.symm), hg.cell h.k1 (fun e => hn e.symm), Below.grown h.g hg h.g.size hl⟩

set_option maxHeartbeats 8000000 in
theorem foldChanges_any (fb mb sz : Nat) (tx : Int) (F : Int → Int → Option Chg) (L : List (Int × Int)) (w : World) (hF : FoC w fb mb tx) (h : MapF 65 w mb (fKV F) sz) (hsz : sz ≤ 100000) (hl : L.length ≤ 100000) (hL : ∀ x y, (F x y).isSome = true → (x, y) ∈ L) :
    Calls Try.prog 24 #[.pointer (some ⟨fb, 0, none⟩)] w fun e w' => ChPost F w e w' := by
  have hrs := risingF_any mb sz (fKV F) L w h hsz hl (fun x y hxy => hL x y (by unfold fKV at hxy; simpa using hxy))
  have HLl : Hid (L.length ≤ 100000) := hl
  have HLm : Hid (∀ x y, (F x y).isSome = true → (x, y) ∈ L) := hL
  obtain ⟨fo0, fo1⟩ := hF
  have hfl : fb < w.heap.size := World.block_lt_of_cell? _ _ fo0
  go_enter Try.func24, Try.ntmps24
  go_wp2_with fail
  refine hrs.mono ?_
  rintro e w4 ⟨ka, ys, kc, rfl, g4, hI, hRi, hD, hM⟩
  have HM : Hid (∀ x : K3, x ∈ ys ↔ (F x.x x.y).isSome = true) := fun x => by rw [hM x]; unfold fKV; simp
  have HRi : Hid (Rise ys) := hRi
  have HD : Hid (ys.Nodup) := hD
  have HL : Hid (ys.length ≤ 100000) := by
    have h1 := nodup_le (ys.map k2P) L (k2P_nodup hD) (fun q hq => by
      obtain ⟨x, hx, rfl⟩ := List.mem_map.1 hq
      exact HLm.out _ _ ((HM.out x).1 hx))
    rw [List.length_map] at h1
    have h2 := HLl.out
    show _ ≤ _
    omega
  have HI : Hid (Rs k2F 2 w4 ka ys) := hI.reads
  have HKx : Hid (MapF 65 w4 mb (fKV F) sz) := h.below g4
  have HFo : Hid (FoC w4 fb mb tx) := FoC.below (W := w) ⟨fo0, fo1⟩ g4
  clear hRi hD hM hI h hrs fo0 fo1 hfl HLl HLm hl hL
  obtain ⟨nn, hnn⟩ : ∃ nn, ys.length = nn := ⟨_, rfl⟩
  have HNN : Hid (ys.length = nn) := hnn
  have hn9 : nn ≤ 100000 := by rw [← hnn]; exact HL.out
  rw [hnn]
  clear hnn HL
  go_wp2_with fail
  go_loopw [12, 3] (fun i v wr => ∃ j : Nat, j ≤ nn ∧ i = .int .i64 j ∧ Below w4.heap.size w4 wr ∧ wr.ownsRow w4.heap.size 28 10 v ((ys.take j).map (fun x => (F x.x x.y).getD zCh)).length (flat chE ((ys.take j).map (fun x => (F x.x x.y).getD zCh)))) (fun i _ _ => nn - (intOf i).toNat)
  case atStart => exact ⟨0, Nat.zero_le _, rfl, Below.refl _ _, ownsRow_nil _ _ _ _⟩
  case round =>
    obtain ⟨j3, hj3, rfl, gr, ho⟩ := hrel
    by_cases hlt3 : j3 < nn
    · obtain ⟨x, hx⟩ : ∃ x, ys[j3]? = some x := ⟨_, List.getElem?_eq_getElem (by rw [HNN.out]; exact hlt3)⟩
      obtain ⟨kb, ko, rfl, k0, k1⟩ := HI.out.k2 hx
      have hkl := World.block_lt_of_cell? _ _ k0
      have k0 := (gr.cell hkl).trans k0
      have k1 := (gr.cell (p := ⟨kb, ko + j3 * 2 + 1, none⟩) hkl).trans k1
      have hxm := List.mem_of_getElem? hx
      obtain ⟨y, hy⟩ := Option.isSome_iff_exists.1 ((HM.out x).1 hxm)
      have hl := fun (V : World) (hV : Below w4.heap.size w4 V) => (HKx.out.below hV).look keyT73 Try.underlying77 (Try.zeroValue28 V) x.h
      have hFy : fKV F x.x x.y = some (chV y) := by unfold fKV; rw [hy]; rfl
      rw [hFy] at hl
      simp only [Option.getD_some, chV, kv] at hl
      have hjn3 : (j3 : Int) < (nn : Int) := by omega
      have HT : Hid ((ys.take (j3 + 1)).map (fun x => (F x.x x.y).getD zCh) = (ys.take j3).map (fun x => (F x.x x.y).getD zCh) ++ [y]) := by show _ = _; rw [take_snoc hx, List.map_append, List.map_singleton, hy]; rfl
      have hlen : ((ys.take j3).map (fun x => (F x.x x.y).getD zCh)).length + 1 ≤ 100000000 := by rw [List.length_map, List.length_take]; omega
      have HL2 : Hid (∀ V, Below w4.heap.size w4 V → _) := hl
      clear hx hxm hl hy hFy
      generalize (ys.take j3).map (fun x => (F x.x x.y).getD zCh) = cs at ho HT hlen
      obtain ⟨x0, ⟨bt, bk, bv, bs⟩, x5, ⟨at', ak, av, sa⟩⟩ := y
      obtain ⟨xt, xk, xh⟩ := x
      dsimp only at k0 k1 HL2
      have hgs := gr.size
      go_upto_region 5 with (fail)
      generalize hY : World.alloc _ _ = Y
      have gY : Below wr.heap.size wr Y := by rw [← hY]; go_grown
      have v0 : Y.cell? ⟨wr.heap.size, 0, none⟩ = some (.int .i64 xt) := by rw [← hY]; simp [go_sem]
      have v1 : Y.cell? ⟨wr.heap.size, 1, none⟩ = some (.int .i64 xk) := by rw [← hY]; simp [go_sem]
      have hlow : ∀ k, u3.ownBlock = some k → w4.heap.size ≤ k := fun k hk => (ho.lt k hk).1
      have hne : ∀ k, u3.ownBlock = some k → k ≠ wr.heap.size := fun k hk => by have := (ho.lt k hk).2; omega
      have hS : LkS w4 wr.heap.size xt xk Y := ⟨v0, v1, gr.trans (gY.mono gr.size)⟩
      have ho := ownsRow_below ho gY
      clear hY gY k0 k1 v0 v1 gr
      generalize wr.heap.size = cb at hS hne ⊢
      refine wp_region_held_drew (S := LkS w4 cb xt xk) (by kernel_rfl) (hS.up (Below.refl _ _).drew) (fun hHeld => ?_)
      have ho := ownsRow_below ho (Below.refl _ _).drew
      clear hS
      generalize Y.drew = D at hHeld ho ⊢
      refine wpAnyH_take (i := 0) (v := ?v7) rfl (by kernel_rfl) (by kernel_rfl) (by kernel_rfl) (fun _ _ _ h => h) (Or.inl ⟨by kernel_rfl, ?h7⟩) hHeld ?_
      case h7 => intro u hSw; clear hSw; go_simp; try with_reducible rfl
      try simp only [List.getElem_toArray]
      try simp only [List.getElem_cons_succ]
      try simp only [List.getElem_cons_zero]
      try simp only [Act.put]
      try simp only [List.setIfInBounds_toArray]
      try simp only [List.set]
      refine wpAnyH_take (i := 1) (v := ?v8) rfl (by kernel_rfl) (by kernel_rfl) (by kernel_rfl) (fun _ _ _ h => h) (Or.inl ⟨by kernel_rfl, ?h8⟩) hHeld ?_
      case h8 => intro u hSw; clear hSw; go_simp; try with_reducible rfl
      try simp only [List.getElem_toArray]
      try simp only [List.getElem_cons_succ]
      try simp only [List.getElem_cons_zero]
      try simp only [Act.put]
      try simp only [List.setIfInBounds_toArray]
      try simp only [List.set]
      refine wpAnyH_take (i := 2) (v := ?v9) rfl (by kernel_rfl) (by kernel_rfl) (by kernel_rfl) (fun _ _ _ h => h) (Or.inl ⟨by kernel_rfl, ?h9⟩) hHeld ?_
      case h9 => intro u hSw; clear hSw; go_simp; try with_reducible rfl
      try simp only [List.getElem_toArray]
      try simp only [List.getElem_cons_succ]
      try simp only [List.getElem_cons_zero]
      try simp only [Act.put]
      try simp only [List.setIfInBounds_toArray]
      try simp only [List.set]
      refine wpAnyH_take (i := 3) (v := ?v10) rfl (by kernel_rfl) (by kernel_rfl) (by kernel_rfl) (fun _ _ _ h => h) (Or.inl ⟨by kernel_rfl, ?h10⟩) hHeld ?_
      case h10 => intro u hSw; clear hSw; go_simp; try with_reducible rfl
      try simp only [List.getElem_toArray]
      try simp only [List.getElem_cons_succ]
      try simp only [List.getElem_cons_zero]
      try simp only [Act.put]
      try simp only [List.setIfInBounds_toArray]
      try simp only [List.set]
      refine wpAnyH_take (i := 4) (v := ?v11) rfl (by kernel_rfl) (by kernel_rfl) (by kernel_rfl) (fun _ _ _ h => h) (Or.inl ⟨by kernel_rfl, ?h11⟩) hHeld ?_
      case h11 => intro u hSw; (have hfo := HFo.out.below hSw.g); (obtain ⟨fo0, fo1⟩ := hfo); clear hSw; go_simp; try with_reducible rfl
      try simp only [List.getElem_toArray]
      try simp only [List.getElem_cons_succ]
      try simp only [List.getElem_cons_zero]
      try simp only [Act.put]
      try simp only [List.setIfInBounds_toArray]
      try simp only [List.set]
      refine wpAnyH_take (i := 5) (v := ?v12) rfl (by kernel_rfl) (by kernel_rfl) (by kernel_rfl) (fun _ _ _ h => h) (Or.inl ⟨by kernel_rfl, ?h12⟩) hHeld ?_
      case h12 => intro u hSw; (obtain ⟨q0, q1, _⟩ := hSw); go_simp; try with_reducible rfl
      try simp only [List.getElem_toArray]
      try simp only [List.getElem_cons_succ]
      try simp only [List.getElem_cons_zero]
      try simp only [Act.put]
      try simp only [List.setIfInBounds_toArray]
      try simp only [List.set]
      refine wpAnyH_take (i := 6) (v := ?v13) rfl (by kernel_rfl) (by kernel_rfl) (by kernel_rfl) (fun _ _ _ h => h) (Or.inl ⟨by kernel_rfl, ?h13⟩) hHeld ?_
      case h13 => intro u hSw; (have hl := HL2.out u hSw.g); clear hSw; go_simp; try with_reducible rfl
      try simp only [List.getElem_toArray]
      try simp only [List.getElem_cons_succ]
      try simp only [List.getElem_cons_zero]
      try simp only [Act.put]
      try simp only [List.setIfInBounds_toArray]
      try simp only [List.set]
      refine wpAnyH_ready (rs := [7]) (by kernel_rfl) (by simp) ?_
      refine AllReadyH.cons rfl (fun K hK => ?_) AllReadyH.nil
      go_simp
      refine hK.out _ _ (hHeld.up (by go_grown)) (fun hHeld => ?_)
      clear hK K
      try simp only [Act.put]
      try simp only [List.setIfInBounds_toArray]
      try simp only [List.set]
      have hgs3 := hHeld.g.size
      refine wpAnyH_ready (rs := [8]) (by kernel_rfl) (by simp) ?_
      refine AllReadyH.cons rfl (fun K hK => ?_) AllReadyH.nil
      rw [if_pos (by kernel_rfl)]
      refine wp_append_sl elC _ _ _ rfl w4.heap.size u3 cs [(⟨x0, ⟨bt, bk, bv, bs⟩, x5, ⟨at', ak, av, sa⟩⟩ : Chg)] (some ⟨D.heap.size, 0, none⟩) 1 1 rfl rfl rfl (ownsRow_below ho (by go_grown)) (rs_one (enc := chE) D (⟨x0, ⟨bt, bk, bv, bs⟩, x5, ⟨at', ak, av, sa⟩⟩ : Chg) 28) hlen hgs3 ?_
      intro v' w' ho' hg' _
      refine hK.out _ _ (hHeld.grow hg' hlow (fun e => hne _ e rfl)) (fun hHeld => ?_)
      clear hK K hg' ho hgs3
      try simp only [Act.put]
      try simp only [List.setIfInBounds_toArray]
      try simp only [List.set]
      refine wpAnyH_take (i := 9) (v := ?v14) rfl (by kernel_rfl) (by kernel_rfl) (by kernel_rfl) (fun _ _ _ h => h) (Or.inl ⟨by kernel_rfl, ?h14⟩) hHeld ?_
      case h14 => intro u hSw; clear hSw; go_simp; try with_reducible rfl
      try simp only [List.getElem_toArray]
      try simp only [List.getElem_cons_succ]
      try simp only [List.getElem_cons_zero]
      try simp only [Act.put]
      try simp only [List.setIfInBounds_toArray]
      try simp only [List.set]
      refine wpAnyH_done (by kernel_rfl) ?_ _
      have ho2 : w'.ownsRow w4.heap.size 28 10 v' ((ys.take (j3 + 1)).map (fun x => (F x.x x.y).getD zCh)).length (flat chE ((ys.take (j3 + 1)).map (fun x => (F x.x x.y).getD zCh))) := by rw [HT.out]; exact ho'
      have gr2 := hHeld.g
      clear hHeld ho'
      go_wp2_with fail
      go_roundw
      case rel => exact ⟨j3 + 1, by omega, by go_num, gr2, ho2⟩
      case measure => simp [intOf]; omega
    · have hjn3 : ¬ (j3 : Int) < (nn : Int) := by omega
      have HRw : Hid ((ys.take j3).map (fun x => (F x.x x.y).getD zCh) = ys.map (fun x => (F x.x x.y).getD zCh)) := by show _ = _; rw [List.take_of_length_le (by rw [HNN.out]; omega)]
      have HO : Hid (wr.ownsRow w4.heap.size 28 10 u3 (ys.map (fun x => (F x.x x.y).getD zCh)).length (flat chE (ys.map (fun x => (F x.x x.y).getD zCh)))) := by show World.ownsRow _ _ _ _ _ _ _; rw [← HRw.out]; exact ho
      have hs4 := g4.size
      clear ho HRw
      have HFin : Hid (ChPost F w (.returned u3) wr) := chPost_mk (g4.trans (gr.mono g4.size)) (ownsRow_base HO.out hs4) HRi.out HD.out HM.out
      clear HO HRi HD HM HKx HI HNN HFo
      go_wp2_with fail
      go_ret
      exact HFin.out

end Go.Proofs.Ytmbllmhpnopbdaa
