/-
  The draws of changes: l8Change, DrawMayBe.
-/
import Derived.Test.YtmnnkgcknkhgdaaGreatDoorDrb
namespace Go.Proofs.YtmnnkgcknkhgdaaGreatDoor
open Go.RowKit
set_option linter.unusedVariables false

def chA (x : Chg) : Value := .agg #[.bool x.was, .int .i64 x.b.t, .int .i64 x.b.k, .int .i64 x.b.v, .string x.b.s, .bool x.is, .int .i64 x.a.t, .int .i64 x.a.k, .int .i64 x.a.v, .string x.a.s]
theorem ChC.turned {w w' : World} {b o lo hi : Nat} {x : Chg} (h : ChC w b o x) (t : Turned lo hi w w') (hn : b < lo ∨ hi ≤ b) : ChC w' b o x :=
  ⟨t.cell h.c0 hn, t.cell h.c1 hn, t.cell h.c2 hn, t.cell h.c3 hn, t.cell h.c4 hn, t.cell h.c5 hn, t.cell h.c6 hn, t.cell h.c7 hn, t.cell h.c8 hn, t.cell h.c9 hn⟩
theorem froz_src {w w' : World} {lo hi x : Nat} (t : Turned lo hi w w') (hx : x < w.heap.size) (hn : x < lo ∨ hi ≤ x) (h : ∀ o, w.frozen? ⟨x, o, none⟩ = false) : ∀ o, w'.frozen? ⟨x, o, none⟩ = false :=
  fun o => (World.frozen?_of_block (a := ⟨x, o, none⟩) (t.block x hx (by omega))).trans (h o)
theorem froz_low {w w' : World} {x : Nat} (g : Below w.heap.size w w') (hx : x < w.heap.size) (h : ∀ o, w.frozen? ⟨x, o, none⟩ = false) : ∀ o, w'.frozen? ⟨x, o, none⟩ = false :=
  froz_src (Turned.ofBelow (lo := 0) (hi := 0) g) hx (.inr (Nat.zero_le _)) h

set_option maxRecDepth 20000 in
set_option maxHeartbeats 8000000 in
theorem l8Change_any (b : Nat) (a : Option Addr) (n c : Nat) (zs : List Int) (i : Int) (a' : Option Addr) (rs : List Rw) (rn cap : Nat) (w : World) (h : SrcAt w b a n c zs i) (i9 : i ≤ 600) (hrn : rs.length = rn) (hr60 : rn ≤ 61) (hss : ∀ r ∈ rs, r.s.size ≤ 9) (hr : SlIn rwE 4 (b + 1) w.heap.size w a' rs) :
    Calls Tryz.prog 18 #[.pointer (some ⟨b, 0, none⟩), .slice a' rn cap] w fun e w' => (∃ x : Chg, e = .returned (chA x) ∧ x.b.s.size ≤ 9 ∧ x.a.s.size ≤ 9) ∧ Turned b (b + 1) w w' ∧ ∃ j, j ≤ i + 9 ∧ SrcAt w' b a n c zs j := by
  have hi0 := h.i0
  have hlb := h.lt
  have HRN : Hid (rs.length = rn) := hrn
  have HSS : Hid (∀ r ∈ rs, r.s.size ≤ 9) := hss
  have HR : Hid (∀ V, Turned b (b + 1) w V → Rs rwE 4 V a' rs) := fun V hV => (hr.turned hV (.inr (Nat.le_refl _))).reads
  have HRB : Hid (∀ rb ro, a' = some ⟨rb, ro, none⟩ → ∀ xb, w.heap.size ≤ xb → rs ≠ [] → rb ≠ xb) := by
    intro rb ro e xb hxb hne
    rcases hr with h | ⟨rb', ro', e', h1, h2, _⟩
    · exact absurd h hne
    · rw [e] at e'
      simp at e'
      omega
  have gO : Below w.heap.size w (w.alloc (.cells #[.bool false, .int .i64 0, .int .i64 0, .int .i64 0, .string ⟨#[]⟩, .bool false, .int .i64 0, .int .i64 0, .int .i64 0, .string ⟨#[]⟩] 28)) := by go_grown
  obtain ⟨W, hW⟩ : ∃ W, W = w.alloc (.cells #[.bool false, .int .i64 0, .int .i64 0, .int .i64 0, .string ⟨#[]⟩, .bool false, .int .i64 0, .int .i64 0, .int .i64 0, .string ⟨#[]⟩] 28) := ⟨_, rfl⟩
  have O : ChC W w.heap.size 0 ⟨false, ⟨0, 0, 0, ⟨#[]⟩⟩, false, ⟨0, 0, 0, ⟨#[]⟩⟩⟩ := by rw [hW]; exact ⟨by simp [go_sem], by simp [go_sem], by simp [go_sem], by simp [go_sem], by simp [go_sem], by simp [go_sem], by simp [go_sem], by simp [go_sem], by simp [go_sem], by simp [go_sem]⟩
  have fO : ∀ o, W.frozen? ⟨w.heap.size, o, none⟩ = false := by intro o; rw [hW]; simp [go_sem]
  have hlo : w.heap.size < W.heap.size := by rw [hW]; simp
  rw [← hW] at gO
  have hS := h.below gO
  have T : Turned b (b + 1) w W := Turned.ofBelow gO
  clear h hr hrn hss gO
  go_enter Tryz.func18, Tryz.ntmps18
  go_wp2_with fail
  rw [← hW]
  clear hW
  obtain ⟨ob, hob⟩ : ∃ ob, ob = w.heap.size := ⟨_, rfl⟩
  have hob1 : w.heap.size ≤ ob := by omega
  have hob2 : b < ob := by omega
  rw [← hob] at O fO hlo ⊢
  clear hob
  refine (l1Draw_any b a n c zs i _ hS (by omega)).mono ?_
  rintro e w2 ⟨⟨xt, xk, xv, xs, rfl, _, _, _, hxs⟩, t2, hS2⟩
  have T := T.trans t2
  have O := O.turned t2 (.inr (by omega))
  have fO := froz_src t2 hlo (.inr (by omega)) fO
  have hlo : ob < w2.heap.size := Nat.lt_of_lt_of_le hlo t2.size
  clear t2 hS
  go_upto_region 2 with (fail)
  generalize hY : World.alloc _ _ = Y
  have gY : Below w2.heap.size w2 Y := by rw [← hY]; go_grown
  have C : RowC Y w2.heap.size 0 ⟨xt, xk, xv, xs⟩ := by rw [← hY]; exact ⟨by simp [go_sem], by simp [go_sem], by simp [go_sem], by simp [go_sem]⟩
  have fC : ∀ o, Y.frozen? ⟨w2.heap.size, o, none⟩ = false := by intro o; rw [← hY]; simp [go_sem]
  have hlc : w2.heap.size < Y.heap.size := by rw [← hY]; simp
  have hS := hS2.below gY
  have O := O.below gY hlo
  have fO := froz_low gY hlo fO
  have hco : ob < w2.heap.size := hlo
  have hlo : ob < Y.heap.size := Nat.lt_of_lt_of_le hlo gY.size
  have T := T.trans (Turned.ofBelow gY)
  clear hY gY hS2
  generalize w2.heap.size = cb at C fC hlc hco ⊢
  go_wp2_with fail
  refine (l1Next_any b a n c zs (i + 5) 5 _ hS (by omega) (by omega) (by omega)).mono ?_
  rintro e w3 ⟨⟨r3, rfl, hr30, hr31⟩, t3, hS3⟩
  have C := C.src t3 (by omega)
  have fC := froz_src t3 hlc (.inr (by omega)) fC
  have O := O.turned t3 (.inr (by omega))
  have fO := froz_src t3 hlo (.inr (by omega)) fO
  have hlo : ob < w3.heap.size := Nat.lt_of_lt_of_le hlo t3.size
  have hlc : cb < w3.heap.size := Nat.lt_of_lt_of_le hlc t3.size
  have T := T.trans t3
  clear t3 hS
  by_cases h0 : r3 = 0
  · subst h0
    have gA : ∀ V : World, Below V.heap.size V (V.alloc (.cells #[.int .i64 1, .int .i64 2, .int .i64 3, .int .i64 4] 2)) := fun V => (Below.refl _ _).alloc (Nat.le_refl _) _
    have gB : ∀ V : World, Below V.heap.size V (V.alloc (.cells #[.int .i64 8, .int .i64 3, .int .i64 0, .int .i64 9] 2)) := fun V => (Below.refl _ _).alloc (Nat.le_refl _) _
    have hl3 := hS3.lt
    go_wp2_with fail
    refine (l1Pick_any b w3.heap.size 4 a n c zs [1, 2, 3, 4] (i + 5 + 1) _ (hS3.below (gA _)) (by omega) (intsAt_new _ 2 _ rfl) rfl (by omega) (by omega) hl3).mono ?_
    rintro e w4 ⟨⟨q1, _, rfl⟩, t4, hS4⟩
    generalize ([1, 2, 3, 4] : List Int).getD q1 0 = pk
    have t4 := (Turned.ofBelow (gA w3)).trans t4
    have C := C.src t4 (by omega)
    have fC := froz_src t4 hlc (.inr (by omega)) fC
    have O := O.turned t4 (.inr (by omega))
    have fO := froz_src t4 hlo (.inr (by omega)) fO
    have hlo : ob < w4.heap.size := Nat.lt_of_lt_of_le hlo t4.size
    have hlc : cb < w4.heap.size := Nat.lt_of_lt_of_le hlc t4.size
    have T := T.trans t4
    have hl4 := hS4.lt
    clear t4 hS3 gA
    go_wp2_with fail
    refine (l1Pick_any b w4.heap.size 4 a n c zs [8, 3, 0, 9] (i + 5 + 1 + 1) _ (hS4.below (gB _)) (by omega) (intsAt_new _ 2 _ rfl) rfl (by omega) (by omega) hl4).mono ?_
    rintro e w5 ⟨⟨q2, _, rfl⟩, t5, hS5⟩
    generalize ([8, 3, 0, 9] : List Int).getD q2 0 = pv
    have t5 := (Turned.ofBelow (gB w4)).trans t5
    have C := C.src t5 (by omega)
    have fC := froz_src t5 hlc (.inr (by omega)) fC
    have O := O.turned t5 (.inr (by omega))
    have fO := froz_src t5 hlo (.inr (by omega)) fO
    have hlo : ob < w5.heap.size := Nat.lt_of_lt_of_le hlo t5.size
    have hlc : cb < w5.heap.size := Nat.lt_of_lt_of_le hlc t5.size
    have T := T.trans t5
    clear t5 hS4 gB
    obtain ⟨y0, y1, y2, y3⟩ := C
    have f0 := fC 0
    have f1 := fC 1
    have f2 := fC 2
    have f3 := fC 3
    dsimp only at y0 y1 y2 y3
    go_upto_region 8 with (fail)
    generalize hZ : World.setCell _ _ _ = Z
    have C : RowC Z cb 0 ⟨0, pk, pv, ⟨#[]⟩⟩ := by rw [← hZ]; clear hZ; exact ⟨by simp [go_sem, *], by simp [go_sem, *], by simp [go_sem, *], by simp [go_sem, *]⟩
    have tZ : Turned cb (cb + 1) w5 Z := by rw [← hZ]; exact (((((Turned.refl _ _ _).setCell (p := ⟨cb, 0, none⟩) (Nat.le_refl _) (Nat.lt_succ_self _) _).setCell (p := ⟨cb, 1, none⟩) (Nat.le_refl _) (Nat.lt_succ_self _) _).setCell (p := ⟨cb, 2, none⟩) (Nat.le_refl _) (Nat.lt_succ_self _) _).setCell (p := ⟨cb, 3, none⟩) (Nat.le_refl _) (Nat.lt_succ_self _) _)
    have hS : SrcAt Z b a n c zs (i + 5 + 1 + 1 + 1) := by rw [← hZ]; exact ((((hS5.setFar (p := ⟨cb, 0, none⟩) (by simp only; omega) _).setFar (p := ⟨cb, 1, none⟩) (by simp only; omega) _).setFar (p := ⟨cb, 2, none⟩) (by simp only; omega) _).setFar (p := ⟨cb, 3, none⟩) (by simp only; omega) _)
    have T := T.low (tZ.toBelow T.size (by omega))
    have O := O.turned tZ (.inl (by omega))
    have fO := froz_src tZ hlo (.inl (by omega)) fO
    have hlo : ob < Z.heap.size := Nat.lt_of_lt_of_le hlo tZ.size
    have hlc : cb < Z.heap.size := Nat.lt_of_lt_of_le hlc tZ.size
    clear hZ tZ y0 y1 y2 y3 f0 f1 f2 f3 hS5 fC hxs
    have hs9 : (ByteArray.mk #[]).size ≤ 9 := Nat.zero_le 9
    obtain ⟨j, hj⟩ : ∃ j, j = i + 5 + 1 + 1 + 1 := ⟨_, rfl⟩
    have hj1 : j ≤ i + 8 := by omega
    have hj0 : 0 ≤ j := by omega
    rw [← hj] at hS
    clear hj
    obtain ⟨y0, y1, y2, y3⟩ := C
    dsimp only at y0 y1 y2 y3
    go_upto_region 9 with (fail)
    generalize hV : World.alloc _ _ = V
    have gV : Below Z.heap.size Z V := by rw [← hV]; go_grown
    have X : ChC V Z.heap.size 0 ⟨false, ⟨0, 0, 0, ⟨#[]⟩⟩, true, ⟨0, pk, pv, ⟨#[]⟩⟩⟩ := by rw [← hV]; exact ⟨by simp [go_sem], by simp [go_sem], by simp [go_sem], by simp [go_sem], by simp [go_sem], by simp [go_sem], by simp [go_sem], by simp [go_sem], by simp [go_sem], by simp [go_sem]⟩
    have fX : ∀ o, V.frozen? ⟨Z.heap.size, o, none⟩ = false := by intro o; rw [← hV]; simp [go_sem]
    have hlX : Z.heap.size < V.heap.size := by rw [← hV]; simp
    have C : RowC V cb 0 ⟨0, pk, pv, ⟨#[]⟩⟩ := RowC.below (w := Z) ⟨y0, y1, y2, y3⟩ gV hlc
    have hS := hS.below gV
    have O := O.below gV hlo
    have fO := froz_low gV hlo fO
    have hlo : ob < V.heap.size := Nat.lt_of_lt_of_le hlo gV.size
    have T := T.trans (Turned.ofBelow gV)
    have hcx : ob < Z.heap.size ∧ w.heap.size ≤ Z.heap.size := ⟨by omega, by omega⟩
    clear hV gV y0 y1 y2 y3
    obtain ⟨xb, hxb⟩ : ∃ xb, xb = Z.heap.size := ⟨_, rfl⟩
    rw [← hxb] at X fX hlX hcx ⊢
    clear hxb
    have hAt := l6At_any a' rs rn cap 0 pk V HRN.out (by omega) (HR.out V T)
    obtain ⟨y0, y1, y2, y3⟩ := C
    dsimp only at y0 y1 y2 y3
    go_wp2_with fail
    refine hAt.mono ?_
    rintro e V2 ⟨at2, rfl, hA, hw⟩
    rw [hw]
    clear hw V2 hAt y0 y1 y2 y3
    by_cases h0 : 0 ≤ at2
    · obtain ⟨q, r, rfl, hr⟩ : ∃ (q : Nat) (r : Rw), at2 = q ∧ rs[q]? = some r := by
        rcases hA with ⟨rfl, _⟩ | ⟨q, r, rfl, hr, _⟩
        · omega
        · exact ⟨q, r, rfl, hr⟩
      have hrs := HSS.out r (List.mem_of_getElem? hr)
      obtain ⟨rb, ro, rfl, R⟩ := (HR.out V T).row hr
      have hqn : q < rn := by rw [← HRN.out]; exact (List.getElem?_eq_some_iff.1 hr).1
      have hqi : (q : Int) < (rn : Int) := by omega
      have hrx : rb ≠ xb := HRB.out _ _ rfl xb (by omega) (fun e => by rw [e] at hr; simp at hr)
      clear hA hr
      obtain ⟨rt, rk, rv, rst⟩ := r
      obtain ⟨m0, m1, m2, m3⟩ := R
      obtain ⟨x0, x1, x2, x3, x4, x5, x6, x7, x8, x9⟩ := X
      have f0 := fX 0
      have f1 := fX 1
      have f2 := fX 2
      have f3 := fX 3
      have f4 := fX 4
      dsimp only at m0 m1 m2 m3 x0 x1 x2 x3 x4 x5 x6 x7 x8 x9 hrs
      go_upto_region 13 with (fail)
      generalize hU : World.setCell _ _ _ = U
      have X : ChC U xb 0 ⟨true, ⟨rt, rk, rv, rst⟩, true, ⟨0, pk, pv, ⟨#[]⟩⟩⟩ := by rw [← hU]; clear hU; exact ⟨by simp [go_sem, *], by simp [go_sem, *], by simp [go_sem, *], by simp [go_sem, *], by simp [go_sem, *], by simp [go_sem, *], by simp [go_sem, *], by simp [go_sem, *], by simp [go_sem, *], by simp [go_sem, *]⟩
      have fX : ∀ o, U.frozen? ⟨xb, o, none⟩ = false := by intro o; rw [← hU]; simp [go_sem, fX]
      have tU : Turned xb (xb + 1) V U := by rw [← hU]; exact ((((((Turned.refl _ _ _).setCell (p := ⟨xb, 0, none⟩) (Nat.le_refl _) (Nat.lt_succ_self _) _).setCell (p := ⟨xb, 1, none⟩) (Nat.le_refl _) (Nat.lt_succ_self _) _).setCell (p := ⟨xb, 2, none⟩) (Nat.le_refl _) (Nat.lt_succ_self _) _).setCell (p := ⟨xb, 3, none⟩) (Nat.le_refl _) (Nat.lt_succ_self _) _).setCell (p := ⟨xb, 4, none⟩) (Nat.le_refl _) (Nat.lt_succ_self _) _)
      have hS : SrcAt U b a n c zs j := by rw [← hU]; exact (((((hS.setFar (p := ⟨xb, 0, none⟩) (by simp only; omega) _).setFar (p := ⟨xb, 1, none⟩) (by simp only; omega) _).setFar (p := ⟨xb, 2, none⟩) (by simp only; omega) _).setFar (p := ⟨xb, 3, none⟩) (by simp only; omega) _).setFar (p := ⟨xb, 4, none⟩) (by simp only; omega) _)
      have T := T.low (tU.toBelow T.size hcx.2)
      have O := O.turned tU (.inl (by omega))
      have fO := froz_src tU hlo (.inl (by omega)) fO
      have hlo : ob < U.heap.size := Nat.lt_of_lt_of_le hlo tU.size
      have hlX : xb < U.heap.size := Nat.lt_of_lt_of_le hlX tU.size
      clear hU tU x0 x1 x2 x3 x4 x5 x6 x7 x8 x9 m0 m1 m2 m3 f0 f1 f2 f3 f4
      go_wp2_with fail
      refine (l1Chance_any b a n c zs j 3 _ hS (by omega) (by omega) (by omega)).mono ?_
      rintro e U2 ⟨⟨z, rfl⟩, t2, hS2⟩
      have X := X.turned t2 (.inr (by omega))
      have fX := froz_src t2 hlX (.inr (by omega)) fX
      have O := O.turned t2 (.inr (by omega))
      have fO := froz_src t2 hlo (.inr (by omega)) fO
      have hlo : ob < U2.heap.size := Nat.lt_of_lt_of_le hlo t2.size
      have T := T.trans t2
      clear t2 hS
      cases z
      · obtain ⟨x0, x1, x2, x3, x4, x5, x6, x7, x8, x9⟩ := X
        obtain ⟨o0, o1, o2, o3, o4, o5, o6, o7, o8, o9⟩ := O
        have q0 := fO 0
        have q1 := fO 1
        have q2 := fO 2
        have q3 := fO 3
        have q4 := fO 4
        have q5 := fO 5
        have q6 := fO 6
        have q7 := fO 7
        have q8 := fO 8
        have q9 := fO 9
        dsimp only at x0 x1 x2 x3 x4 x5 x6 x7 x8 x9 o0 o1 o2 o3 o4 o5 o6 o7 o8 o9
        go_wp2_with fail
        refine bodyPost_ret (v := .agg #[.bool true, .int .i64 rt, .int .i64 rk, .int .i64 rv, .string rst, .bool true, .int .i64 0, .int .i64 pk, .int .i64 pv, .string ⟨#[]⟩]) (by simp [results, Tryz.results18, go_sem, *]) rfl ?_
        exact ⟨⟨⟨true, ⟨rt, rk, rv, rst⟩, true, ⟨0, pk, pv, ⟨#[]⟩⟩⟩, rfl, hrs, hs9⟩, T.low (by go_grown), j + 1, by omega, ((((((((((hS2.setFar (p := ⟨ob, 0, none⟩) (by simp only; omega) _).setFar (p := ⟨ob, 1, none⟩) (by simp only; omega) _).setFar (p := ⟨ob, 2, none⟩) (by simp only; omega) _).setFar (p := ⟨ob, 3, none⟩) (by simp only; omega) _).setFar (p := ⟨ob, 4, none⟩) (by simp only; omega) _).setFar (p := ⟨ob, 5, none⟩) (by simp only; omega) _).setFar (p := ⟨ob, 6, none⟩) (by simp only; omega) _).setFar (p := ⟨ob, 7, none⟩) (by simp only; omega) _).setFar (p := ⟨ob, 8, none⟩) (by simp only; omega) _).setFar (p := ⟨ob, 9, none⟩) (by simp only; omega) _)⟩
      · obtain ⟨x0, x1, x2, x3, x4, x5, x6, x7, x8, x9⟩ := X
        have f5 := fX 5
        have f6 := fX 6
        have f7 := fX 7
        have f8 := fX 8
        have f9 := fX 9
        dsimp only at x0 x1 x2 x3 x4 x5 x6 x7 x8 x9
        go_upto_region 16 with (fail)
        generalize hU : World.setCell _ _ _ = U3
        have X : ChC U3 xb 0 ⟨true, ⟨rt, rk, rv, rst⟩, false, ⟨0, 0, 0, ⟨#[]⟩⟩⟩ := by rw [← hU]; clear hU; exact ⟨by simp [go_sem, *], by simp [go_sem, *], by simp [go_sem, *], by simp [go_sem, *], by simp [go_sem, *], by simp [go_sem, *], by simp [go_sem, *], by simp [go_sem, *], by simp [go_sem, *], by simp [go_sem, *]⟩
        have tU : Turned xb (xb + 1) U2 U3 := by rw [← hU]; exact ((((((Turned.refl _ _ _).setCell (p := ⟨xb, 5, none⟩) (Nat.le_refl _) (Nat.lt_succ_self _) _).setCell (p := ⟨xb, 6, none⟩) (Nat.le_refl _) (Nat.lt_succ_self _) _).setCell (p := ⟨xb, 7, none⟩) (Nat.le_refl _) (Nat.lt_succ_self _) _).setCell (p := ⟨xb, 8, none⟩) (Nat.le_refl _) (Nat.lt_succ_self _) _).setCell (p := ⟨xb, 9, none⟩) (Nat.le_refl _) (Nat.lt_succ_self _) _)
        have hS : SrcAt U3 b a n c zs (j + 1) := by rw [← hU]; exact (((((hS2.setFar (p := ⟨xb, 5, none⟩) (by simp only; omega) _).setFar (p := ⟨xb, 6, none⟩) (by simp only; omega) _).setFar (p := ⟨xb, 7, none⟩) (by simp only; omega) _).setFar (p := ⟨xb, 8, none⟩) (by simp only; omega) _).setFar (p := ⟨xb, 9, none⟩) (by simp only; omega) _)
        have T := T.low (tU.toBelow T.size hcx.2)
        have O := O.turned tU (.inl (by omega))
        have fO := froz_src tU hlo (.inl (by omega)) fO
        clear hU tU x0 x1 x2 x3 x4 x5 x6 x7 x8 x9 f5 f6 f7 f8 f9
        obtain ⟨x0, x1, x2, x3, x4, x5, x6, x7, x8, x9⟩ := X
        obtain ⟨o0, o1, o2, o3, o4, o5, o6, o7, o8, o9⟩ := O
        have q0 := fO 0
        have q1 := fO 1
        have q2 := fO 2
        have q3 := fO 3
        have q4 := fO 4
        have q5 := fO 5
        have q6 := fO 6
        have q7 := fO 7
        have q8 := fO 8
        have q9 := fO 9
        dsimp only at x0 x1 x2 x3 x4 x5 x6 x7 x8 x9 o0 o1 o2 o3 o4 o5 o6 o7 o8 o9
        go_wp2_with fail
        refine bodyPost_ret (v := .agg #[.bool true, .int .i64 rt, .int .i64 rk, .int .i64 rv, .string rst, .bool false, .int .i64 0, .int .i64 0, .int .i64 0, .string ⟨#[]⟩]) (by simp [results, Tryz.results18, go_sem, *]) rfl ?_
        exact ⟨⟨⟨true, ⟨rt, rk, rv, rst⟩, false, ⟨0, 0, 0, ⟨#[]⟩⟩⟩, rfl, hrs, Nat.zero_le 9⟩, T.low (by go_grown), j + 1, by omega, ((((((((((hS.setFar (p := ⟨ob, 0, none⟩) (by simp only; omega) _).setFar (p := ⟨ob, 1, none⟩) (by simp only; omega) _).setFar (p := ⟨ob, 2, none⟩) (by simp only; omega) _).setFar (p := ⟨ob, 3, none⟩) (by simp only; omega) _).setFar (p := ⟨ob, 4, none⟩) (by simp only; omega) _).setFar (p := ⟨ob, 5, none⟩) (by simp only; omega) _).setFar (p := ⟨ob, 6, none⟩) (by simp only; omega) _).setFar (p := ⟨ob, 7, none⟩) (by simp only; omega) _).setFar (p := ⟨ob, 8, none⟩) (by simp only; omega) _).setFar (p := ⟨ob, 9, none⟩) (by simp only; omega) _)⟩
    · clear hA
      obtain ⟨x0, x1, x2, x3, x4, x5, x6, x7, x8, x9⟩ := X
      obtain ⟨o0, o1, o2, o3, o4, o5, o6, o7, o8, o9⟩ := O
      have q0 := fO 0
      have q1 := fO 1
      have q2 := fO 2
      have q3 := fO 3
      have q4 := fO 4
      have q5 := fO 5
      have q6 := fO 6
      have q7 := fO 7
      have q8 := fO 8
      have q9 := fO 9
      dsimp only at x0 x1 x2 x3 x4 x5 x6 x7 x8 x9 o0 o1 o2 o3 o4 o5 o6 o7 o8 o9
      go_wp2_with fail
      refine bodyPost_ret (v := .agg #[.bool false, .int .i64 0, .int .i64 0, .int .i64 0, .string ⟨#[]⟩, .bool true, .int .i64 0, .int .i64 pk, .int .i64 pv, .string ⟨#[]⟩]) (by simp [results, Tryz.results18, go_sem, *]) rfl ?_
      exact ⟨⟨⟨false, ⟨0, 0, 0, ⟨#[]⟩⟩, true, ⟨0, pk, pv, ⟨#[]⟩⟩⟩, rfl, Nat.zero_le 9, hs9⟩, T.low (by go_grown), j, by omega, ((((((((((hS.setFar (p := ⟨ob, 0, none⟩) (by simp only; omega) _).setFar (p := ⟨ob, 1, none⟩) (by simp only; omega) _).setFar (p := ⟨ob, 2, none⟩) (by simp only; omega) _).setFar (p := ⟨ob, 3, none⟩) (by simp only; omega) _).setFar (p := ⟨ob, 4, none⟩) (by simp only; omega) _).setFar (p := ⟨ob, 5, none⟩) (by simp only; omega) _).setFar (p := ⟨ob, 6, none⟩) (by simp only; omega) _).setFar (p := ⟨ob, 7, none⟩) (by simp only; omega) _).setFar (p := ⟨ob, 8, none⟩) (by simp only; omega) _).setFar (p := ⟨ob, 9, none⟩) (by simp only; omega) _)⟩
  · by_cases h1 : r3 = 1
    · subst h1
      clear hr30 hr31 h0
      obtain ⟨y0, y1, y2, y3⟩ := C
      have f0 := fC 0
      dsimp only at y0 y1 y2 y3
      go_upto_region 8 with (fail)
      generalize hZ : World.setCell _ _ _ = Z
      have C : RowC Z cb 0 ⟨3, xk, xv, xs⟩ := by rw [← hZ]; clear hZ; exact ⟨by simp [go_sem, *], by simp [go_sem, *], by simp [go_sem, *], by simp [go_sem, *]⟩
      have tZ : Turned cb (cb + 1) w3 Z := by rw [← hZ]; exact ((Turned.refl _ _ _).setCell (p := ⟨cb, 0, none⟩) (Nat.le_refl _) (Nat.lt_succ_self _) _)
      have hS : SrcAt Z b a n c zs (i + 5 + 1) := by rw [← hZ]; exact (hS3.setFar (p := ⟨cb, 0, none⟩) (by simp only; omega) _)
      have T := T.low (tZ.toBelow T.size (by omega))
      have O := O.turned tZ (.inl (by omega))
      have fO := froz_src tZ hlo (.inl (by omega)) fO
      have hlo : ob < Z.heap.size := Nat.lt_of_lt_of_le hlo tZ.size
      have hlc : cb < Z.heap.size := Nat.lt_of_lt_of_le hlc tZ.size
      clear hZ tZ y0 y1 y2 y3 f0 hS3 fC
      have hs9 : xs.size ≤ 9 := Nat.le_trans hxs (by omega)
      obtain ⟨j, hj⟩ : ∃ j, j = i + 5 + 1 := ⟨_, rfl⟩
      have hj1 : j ≤ i + 8 := by omega
      have hj0 : 0 ≤ j := by omega
      rw [← hj] at hS
      clear hj hxs
      obtain ⟨y0, y1, y2, y3⟩ := C
      dsimp only at y0 y1 y2 y3
      go_upto_region 9 with (fail)
      generalize hV : World.alloc _ _ = V
      have gV : Below Z.heap.size Z V := by rw [← hV]; go_grown
      have X : ChC V Z.heap.size 0 ⟨false, ⟨0, 0, 0, ⟨#[]⟩⟩, true, ⟨3, xk, xv, xs⟩⟩ := by rw [← hV]; exact ⟨by simp [go_sem], by simp [go_sem], by simp [go_sem], by simp [go_sem], by simp [go_sem], by simp [go_sem], by simp [go_sem], by simp [go_sem], by simp [go_sem], by simp [go_sem]⟩
      have fX : ∀ o, V.frozen? ⟨Z.heap.size, o, none⟩ = false := by intro o; rw [← hV]; simp [go_sem]
      have hlX : Z.heap.size < V.heap.size := by rw [← hV]; simp
      have C : RowC V cb 0 ⟨3, xk, xv, xs⟩ := RowC.below (w := Z) ⟨y0, y1, y2, y3⟩ gV hlc
      have hS := hS.below gV
      have O := O.below gV hlo
      have fO := froz_low gV hlo fO
      have hlo : ob < V.heap.size := Nat.lt_of_lt_of_le hlo gV.size
      have T := T.trans (Turned.ofBelow gV)
      have hcx : ob < Z.heap.size ∧ w.heap.size ≤ Z.heap.size := ⟨by omega, by omega⟩
      clear hV gV y0 y1 y2 y3
      obtain ⟨xb, hxb⟩ : ∃ xb, xb = Z.heap.size := ⟨_, rfl⟩
      rw [← hxb] at X fX hlX hcx ⊢
      clear hxb
      have hAt := l6At_any a' rs rn cap 3 xk V HRN.out (by omega) (HR.out V T)
      obtain ⟨y0, y1, y2, y3⟩ := C
      dsimp only at y0 y1 y2 y3
      go_wp2_with fail
      refine hAt.mono ?_
      rintro e V2 ⟨at2, rfl, hA, hw⟩
      rw [hw]
      clear hw V2 hAt y0 y1 y2 y3
      by_cases h0 : 0 ≤ at2
      · obtain ⟨q, r, rfl, hr⟩ : ∃ (q : Nat) (r : Rw), at2 = q ∧ rs[q]? = some r := by
          rcases hA with ⟨rfl, _⟩ | ⟨q, r, rfl, hr, _⟩
          · omega
          · exact ⟨q, r, rfl, hr⟩
        have hrs := HSS.out r (List.mem_of_getElem? hr)
        obtain ⟨rb, ro, rfl, R⟩ := (HR.out V T).row hr
        have hqn : q < rn := by rw [← HRN.out]; exact (List.getElem?_eq_some_iff.1 hr).1
        have hqi : (q : Int) < (rn : Int) := by omega
        have hrx : rb ≠ xb := HRB.out _ _ rfl xb (by omega) (fun e => by rw [e] at hr; simp at hr)
        clear hA hr
        obtain ⟨rt, rk, rv, rst⟩ := r
        obtain ⟨m0, m1, m2, m3⟩ := R
        obtain ⟨x0, x1, x2, x3, x4, x5, x6, x7, x8, x9⟩ := X
        have f0 := fX 0
        have f1 := fX 1
        have f2 := fX 2
        have f3 := fX 3
        have f4 := fX 4
        dsimp only at m0 m1 m2 m3 x0 x1 x2 x3 x4 x5 x6 x7 x8 x9 hrs
        go_upto_region 13 with (fail)
        generalize hU : World.setCell _ _ _ = U
        have X : ChC U xb 0 ⟨true, ⟨rt, rk, rv, rst⟩, true, ⟨3, xk, xv, xs⟩⟩ := by rw [← hU]; clear hU; exact ⟨by simp [go_sem, *], by simp [go_sem, *], by simp [go_sem, *], by simp [go_sem, *], by simp [go_sem, *], by simp [go_sem, *], by simp [go_sem, *], by simp [go_sem, *], by simp [go_sem, *], by simp [go_sem, *]⟩
        have fX : ∀ o, U.frozen? ⟨xb, o, none⟩ = false := by intro o; rw [← hU]; simp [go_sem, fX]
        have tU : Turned xb (xb + 1) V U := by rw [← hU]; exact ((((((Turned.refl _ _ _).setCell (p := ⟨xb, 0, none⟩) (Nat.le_refl _) (Nat.lt_succ_self _) _).setCell (p := ⟨xb, 1, none⟩) (Nat.le_refl _) (Nat.lt_succ_self _) _).setCell (p := ⟨xb, 2, none⟩) (Nat.le_refl _) (Nat.lt_succ_self _) _).setCell (p := ⟨xb, 3, none⟩) (Nat.le_refl _) (Nat.lt_succ_self _) _).setCell (p := ⟨xb, 4, none⟩) (Nat.le_refl _) (Nat.lt_succ_self _) _)
        have hS : SrcAt U b a n c zs j := by rw [← hU]; exact (((((hS.setFar (p := ⟨xb, 0, none⟩) (by simp only; omega) _).setFar (p := ⟨xb, 1, none⟩) (by simp only; omega) _).setFar (p := ⟨xb, 2, none⟩) (by simp only; omega) _).setFar (p := ⟨xb, 3, none⟩) (by simp only; omega) _).setFar (p := ⟨xb, 4, none⟩) (by simp only; omega) _)
        have T := T.low (tU.toBelow T.size hcx.2)
        have O := O.turned tU (.inl (by omega))
        have fO := froz_src tU hlo (.inl (by omega)) fO
        have hlo : ob < U.heap.size := Nat.lt_of_lt_of_le hlo tU.size
        have hlX : xb < U.heap.size := Nat.lt_of_lt_of_le hlX tU.size
        clear hU tU x0 x1 x2 x3 x4 x5 x6 x7 x8 x9 m0 m1 m2 m3 f0 f1 f2 f3 f4
        go_wp2_with fail
        refine (l1Chance_any b a n c zs j 3 _ hS (by omega) (by omega) (by omega)).mono ?_
        rintro e U2 ⟨⟨z, rfl⟩, t2, hS2⟩
        have X := X.turned t2 (.inr (by omega))
        have fX := froz_src t2 hlX (.inr (by omega)) fX
        have O := O.turned t2 (.inr (by omega))
        have fO := froz_src t2 hlo (.inr (by omega)) fO
        have hlo : ob < U2.heap.size := Nat.lt_of_lt_of_le hlo t2.size
        have T := T.trans t2
        clear t2 hS
        cases z
        · obtain ⟨x0, x1, x2, x3, x4, x5, x6, x7, x8, x9⟩ := X
          obtain ⟨o0, o1, o2, o3, o4, o5, o6, o7, o8, o9⟩ := O
          have q0 := fO 0
          have q1 := fO 1
          have q2 := fO 2
          have q3 := fO 3
          have q4 := fO 4
          have q5 := fO 5
          have q6 := fO 6
          have q7 := fO 7
          have q8 := fO 8
          have q9 := fO 9
          dsimp only at x0 x1 x2 x3 x4 x5 x6 x7 x8 x9 o0 o1 o2 o3 o4 o5 o6 o7 o8 o9
          go_wp2_with fail
          refine bodyPost_ret (v := .agg #[.bool true, .int .i64 rt, .int .i64 rk, .int .i64 rv, .string rst, .bool true, .int .i64 3, .int .i64 xk, .int .i64 xv, .string xs]) (by simp [results, Tryz.results18, go_sem, *]) rfl ?_
          exact ⟨⟨⟨true, ⟨rt, rk, rv, rst⟩, true, ⟨3, xk, xv, xs⟩⟩, rfl, hrs, hs9⟩, T.low (by go_grown), j + 1, by omega, ((((((((((hS2.setFar (p := ⟨ob, 0, none⟩) (by simp only; omega) _).setFar (p := ⟨ob, 1, none⟩) (by simp only; omega) _).setFar (p := ⟨ob, 2, none⟩) (by simp only; omega) _).setFar (p := ⟨ob, 3, none⟩) (by simp only; omega) _).setFar (p := ⟨ob, 4, none⟩) (by simp only; omega) _).setFar (p := ⟨ob, 5, none⟩) (by simp only; omega) _).setFar (p := ⟨ob, 6, none⟩) (by simp only; omega) _).setFar (p := ⟨ob, 7, none⟩) (by simp only; omega) _).setFar (p := ⟨ob, 8, none⟩) (by simp only; omega) _).setFar (p := ⟨ob, 9, none⟩) (by simp only; omega) _)⟩
        · obtain ⟨x0, x1, x2, x3, x4, x5, x6, x7, x8, x9⟩ := X
          have f5 := fX 5
          have f6 := fX 6
          have f7 := fX 7
          have f8 := fX 8
          have f9 := fX 9
          dsimp only at x0 x1 x2 x3 x4 x5 x6 x7 x8 x9
          go_upto_region 16 with (fail)
          generalize hU : World.setCell _ _ _ = U3
          have X : ChC U3 xb 0 ⟨true, ⟨rt, rk, rv, rst⟩, false, ⟨0, 0, 0, ⟨#[]⟩⟩⟩ := by rw [← hU]; clear hU; exact ⟨by simp [go_sem, *], by simp [go_sem, *], by simp [go_sem, *], by simp [go_sem, *], by simp [go_sem, *], by simp [go_sem, *], by simp [go_sem, *], by simp [go_sem, *], by simp [go_sem, *], by simp [go_sem, *]⟩
          have tU : Turned xb (xb + 1) U2 U3 := by rw [← hU]; exact ((((((Turned.refl _ _ _).setCell (p := ⟨xb, 5, none⟩) (Nat.le_refl _) (Nat.lt_succ_self _) _).setCell (p := ⟨xb, 6, none⟩) (Nat.le_refl _) (Nat.lt_succ_self _) _).setCell (p := ⟨xb, 7, none⟩) (Nat.le_refl _) (Nat.lt_succ_self _) _).setCell (p := ⟨xb, 8, none⟩) (Nat.le_refl _) (Nat.lt_succ_self _) _).setCell (p := ⟨xb, 9, none⟩) (Nat.le_refl _) (Nat.lt_succ_self _) _)
          have hS : SrcAt U3 b a n c zs (j + 1) := by rw [← hU]; exact (((((hS2.setFar (p := ⟨xb, 5, none⟩) (by simp only; omega) _).setFar (p := ⟨xb, 6, none⟩) (by simp only; omega) _).setFar (p := ⟨xb, 7, none⟩) (by simp only; omega) _).setFar (p := ⟨xb, 8, none⟩) (by simp only; omega) _).setFar (p := ⟨xb, 9, none⟩) (by simp only; omega) _)
          have T := T.low (tU.toBelow T.size hcx.2)
          have O := O.turned tU (.inl (by omega))
          have fO := froz_src tU hlo (.inl (by omega)) fO
          clear hU tU x0 x1 x2 x3 x4 x5 x6 x7 x8 x9 f5 f6 f7 f8 f9
          obtain ⟨x0, x1, x2, x3, x4, x5, x6, x7, x8, x9⟩ := X
          obtain ⟨o0, o1, o2, o3, o4, o5, o6, o7, o8, o9⟩ := O
          have q0 := fO 0
          have q1 := fO 1
          have q2 := fO 2
          have q3 := fO 3
          have q4 := fO 4
          have q5 := fO 5
          have q6 := fO 6
          have q7 := fO 7
          have q8 := fO 8
          have q9 := fO 9
          dsimp only at x0 x1 x2 x3 x4 x5 x6 x7 x8 x9 o0 o1 o2 o3 o4 o5 o6 o7 o8 o9
          go_wp2_with fail
          refine bodyPost_ret (v := .agg #[.bool true, .int .i64 rt, .int .i64 rk, .int .i64 rv, .string rst, .bool false, .int .i64 0, .int .i64 0, .int .i64 0, .string ⟨#[]⟩]) (by simp [results, Tryz.results18, go_sem, *]) rfl ?_
          exact ⟨⟨⟨true, ⟨rt, rk, rv, rst⟩, false, ⟨0, 0, 0, ⟨#[]⟩⟩⟩, rfl, hrs, Nat.zero_le 9⟩, T.low (by go_grown), j + 1, by omega, ((((((((((hS.setFar (p := ⟨ob, 0, none⟩) (by simp only; omega) _).setFar (p := ⟨ob, 1, none⟩) (by simp only; omega) _).setFar (p := ⟨ob, 2, none⟩) (by simp only; omega) _).setFar (p := ⟨ob, 3, none⟩) (by simp only; omega) _).setFar (p := ⟨ob, 4, none⟩) (by simp only; omega) _).setFar (p := ⟨ob, 5, none⟩) (by simp only; omega) _).setFar (p := ⟨ob, 6, none⟩) (by simp only; omega) _).setFar (p := ⟨ob, 7, none⟩) (by simp only; omega) _).setFar (p := ⟨ob, 8, none⟩) (by simp only; omega) _).setFar (p := ⟨ob, 9, none⟩) (by simp only; omega) _)⟩
      · clear hA
        obtain ⟨x0, x1, x2, x3, x4, x5, x6, x7, x8, x9⟩ := X
        obtain ⟨o0, o1, o2, o3, o4, o5, o6, o7, o8, o9⟩ := O
        have q0 := fO 0
        have q1 := fO 1
        have q2 := fO 2
        have q3 := fO 3
        have q4 := fO 4
        have q5 := fO 5
        have q6 := fO 6
        have q7 := fO 7
        have q8 := fO 8
        have q9 := fO 9
        dsimp only at x0 x1 x2 x3 x4 x5 x6 x7 x8 x9 o0 o1 o2 o3 o4 o5 o6 o7 o8 o9
        go_wp2_with fail
        refine bodyPost_ret (v := .agg #[.bool false, .int .i64 0, .int .i64 0, .int .i64 0, .string ⟨#[]⟩, .bool true, .int .i64 3, .int .i64 xk, .int .i64 xv, .string xs]) (by simp [results, Tryz.results18, go_sem, *]) rfl ?_
        exact ⟨⟨⟨false, ⟨0, 0, 0, ⟨#[]⟩⟩, true, ⟨3, xk, xv, xs⟩⟩, rfl, Nat.zero_le 9, hs9⟩, T.low (by go_grown), j, by omega, ((((((((((hS.setFar (p := ⟨ob, 0, none⟩) (by simp only; omega) _).setFar (p := ⟨ob, 1, none⟩) (by simp only; omega) _).setFar (p := ⟨ob, 2, none⟩) (by simp only; omega) _).setFar (p := ⟨ob, 3, none⟩) (by simp only; omega) _).setFar (p := ⟨ob, 4, none⟩) (by simp only; omega) _).setFar (p := ⟨ob, 5, none⟩) (by simp only; omega) _).setFar (p := ⟨ob, 6, none⟩) (by simp only; omega) _).setFar (p := ⟨ob, 7, none⟩) (by simp only; omega) _).setFar (p := ⟨ob, 8, none⟩) (by simp only; omega) _).setFar (p := ⟨ob, 9, none⟩) (by simp only; omega) _)⟩
    · go_wp2_with fail
      refine (l1Next_any b a n c zs (i + 5 + 1) 2 _ hS3 (by omega) (by omega) (by omega)).mono ?_
      rintro e w4 ⟨⟨r4, rfl, hr40, hr41⟩, t4, hS4⟩
      have C := C.src t4 (by omega)
      have fC := froz_src t4 hlc (.inr (by omega)) fC
      have O := O.turned t4 (.inr (by omega))
      have fO := froz_src t4 hlo (.inr (by omega)) fO
      have hlo : ob < w4.heap.size := Nat.lt_of_lt_of_le hlo t4.size
      have hlc : cb < w4.heap.size := Nat.lt_of_lt_of_le hlc t4.size
      have T := T.trans t4
      clear t4 hS3 hr30 hr31 h0 h1
      obtain ⟨y0, y1, y2, y3⟩ := C
      have f0 := fC 0
      dsimp only at y0 y1 y2 y3
      go_upto_region 8 with (fail)
      generalize hZ : World.setCell _ _ _ = Z
      have C : RowC Z cb 0 ⟨1 + r4, xk, xv, xs⟩ := by rw [← hZ]; clear hZ; exact ⟨by simp [go_sem, *], by simp [go_sem, *], by simp [go_sem, *], by simp [go_sem, *]⟩
      have tZ : Turned cb (cb + 1) w4 Z := by rw [← hZ]; exact ((Turned.refl _ _ _).setCell (p := ⟨cb, 0, none⟩) (Nat.le_refl _) (Nat.lt_succ_self _) _)
      have hS : SrcAt Z b a n c zs (i + 5 + 1 + 1) := by rw [← hZ]; exact (hS4.setFar (p := ⟨cb, 0, none⟩) (by simp only; omega) _)
      have T := T.low (tZ.toBelow T.size (by omega))
      have O := O.turned tZ (.inl (by omega))
      have fO := froz_src tZ hlo (.inl (by omega)) fO
      have hlo : ob < Z.heap.size := Nat.lt_of_lt_of_le hlo tZ.size
      have hlc : cb < Z.heap.size := Nat.lt_of_lt_of_le hlc tZ.size
      clear hZ tZ y0 y1 y2 y3 f0 hS4 fC
      have hs9 : xs.size ≤ 9 := Nat.le_trans hxs (by omega)
      obtain ⟨j, hj⟩ : ∃ j, j = i + 5 + 1 + 1 := ⟨_, rfl⟩
      have hj1 : j ≤ i + 8 := by omega
      have hj0 : 0 ≤ j := by omega
      rw [← hj] at hS
      clear hj hxs
      generalize 1 + r4 = tt at C ⊢
      clear hr40 hr41
      obtain ⟨y0, y1, y2, y3⟩ := C
      dsimp only at y0 y1 y2 y3
      go_upto_region 9 with (fail)
      generalize hV : World.alloc _ _ = V
      have gV : Below Z.heap.size Z V := by rw [← hV]; go_grown
      have X : ChC V Z.heap.size 0 ⟨false, ⟨0, 0, 0, ⟨#[]⟩⟩, true, ⟨tt, xk, xv, xs⟩⟩ := by rw [← hV]; exact ⟨by simp [go_sem], by simp [go_sem], by simp [go_sem], by simp [go_sem], by simp [go_sem], by simp [go_sem], by simp [go_sem], by simp [go_sem], by simp [go_sem], by simp [go_sem]⟩
      have fX : ∀ o, V.frozen? ⟨Z.heap.size, o, none⟩ = false := by intro o; rw [← hV]; simp [go_sem]
      have hlX : Z.heap.size < V.heap.size := by rw [← hV]; simp
      have C : RowC V cb 0 ⟨tt, xk, xv, xs⟩ := RowC.below (w := Z) ⟨y0, y1, y2, y3⟩ gV hlc
      have hS := hS.below gV
      have O := O.below gV hlo
      have fO := froz_low gV hlo fO
      have hlo : ob < V.heap.size := Nat.lt_of_lt_of_le hlo gV.size
      have T := T.trans (Turned.ofBelow gV)
      have hcx : ob < Z.heap.size ∧ w.heap.size ≤ Z.heap.size := ⟨by omega, by omega⟩
      clear hV gV y0 y1 y2 y3
      obtain ⟨xb, hxb⟩ : ∃ xb, xb = Z.heap.size := ⟨_, rfl⟩
      rw [← hxb] at X fX hlX hcx ⊢
      clear hxb
      have hAt := l6At_any a' rs rn cap tt xk V HRN.out (by omega) (HR.out V T)
      obtain ⟨y0, y1, y2, y3⟩ := C
      dsimp only at y0 y1 y2 y3
      go_wp2_with fail
      refine hAt.mono ?_
      rintro e V2 ⟨at2, rfl, hA, hw⟩
      rw [hw]
      clear hw V2 hAt y0 y1 y2 y3
      by_cases h0 : 0 ≤ at2
      · obtain ⟨q, r, rfl, hr⟩ : ∃ (q : Nat) (r : Rw), at2 = q ∧ rs[q]? = some r := by
          rcases hA with ⟨rfl, _⟩ | ⟨q, r, rfl, hr, _⟩
          · omega
          · exact ⟨q, r, rfl, hr⟩
        have hrs := HSS.out r (List.mem_of_getElem? hr)
        obtain ⟨rb, ro, rfl, R⟩ := (HR.out V T).row hr
        have hqn : q < rn := by rw [← HRN.out]; exact (List.getElem?_eq_some_iff.1 hr).1
        have hqi : (q : Int) < (rn : Int) := by omega
        have hrx : rb ≠ xb := HRB.out _ _ rfl xb (by omega) (fun e => by rw [e] at hr; simp at hr)
        clear hA hr
        obtain ⟨rt, rk, rv, rst⟩ := r
        obtain ⟨m0, m1, m2, m3⟩ := R
        obtain ⟨x0, x1, x2, x3, x4, x5, x6, x7, x8, x9⟩ := X
        have f0 := fX 0
        have f1 := fX 1
        have f2 := fX 2
        have f3 := fX 3
        have f4 := fX 4
        dsimp only at m0 m1 m2 m3 x0 x1 x2 x3 x4 x5 x6 x7 x8 x9 hrs
        go_upto_region 13 with (fail)
        generalize hU : World.setCell _ _ _ = U
        have X : ChC U xb 0 ⟨true, ⟨rt, rk, rv, rst⟩, true, ⟨tt, xk, xv, xs⟩⟩ := by rw [← hU]; clear hU; exact ⟨by simp [go_sem, *], by simp [go_sem, *], by simp [go_sem, *], by simp [go_sem, *], by simp [go_sem, *], by simp [go_sem, *], by simp [go_sem, *], by simp [go_sem, *], by simp [go_sem, *], by simp [go_sem, *]⟩
        have fX : ∀ o, U.frozen? ⟨xb, o, none⟩ = false := by intro o; rw [← hU]; simp [go_sem, fX]
        have tU : Turned xb (xb + 1) V U := by rw [← hU]; exact ((((((Turned.refl _ _ _).setCell (p := ⟨xb, 0, none⟩) (Nat.le_refl _) (Nat.lt_succ_self _) _).setCell (p := ⟨xb, 1, none⟩) (Nat.le_refl _) (Nat.lt_succ_self _) _).setCell (p := ⟨xb, 2, none⟩) (Nat.le_refl _) (Nat.lt_succ_self _) _).setCell (p := ⟨xb, 3, none⟩) (Nat.le_refl _) (Nat.lt_succ_self _) _).setCell (p := ⟨xb, 4, none⟩) (Nat.le_refl _) (Nat.lt_succ_self _) _)
        have hS : SrcAt U b a n c zs j := by rw [← hU]; exact (((((hS.setFar (p := ⟨xb, 0, none⟩) (by simp only; omega) _).setFar (p := ⟨xb, 1, none⟩) (by simp only; omega) _).setFar (p := ⟨xb, 2, none⟩) (by simp only; omega) _).setFar (p := ⟨xb, 3, none⟩) (by simp only; omega) _).setFar (p := ⟨xb, 4, none⟩) (by simp only; omega) _)
        have T := T.low (tU.toBelow T.size hcx.2)
        have O := O.turned tU (.inl (by omega))
        have fO := froz_src tU hlo (.inl (by omega)) fO
        have hlo : ob < U.heap.size := Nat.lt_of_lt_of_le hlo tU.size
        have hlX : xb < U.heap.size := Nat.lt_of_lt_of_le hlX tU.size
        clear hU tU x0 x1 x2 x3 x4 x5 x6 x7 x8 x9 m0 m1 m2 m3 f0 f1 f2 f3 f4
        go_wp2_with fail
        refine (l1Chance_any b a n c zs j 3 _ hS (by omega) (by omega) (by omega)).mono ?_
        rintro e U2 ⟨⟨z, rfl⟩, t2, hS2⟩
        have X := X.turned t2 (.inr (by omega))
        have fX := froz_src t2 hlX (.inr (by omega)) fX
        have O := O.turned t2 (.inr (by omega))
        have fO := froz_src t2 hlo (.inr (by omega)) fO
        have hlo : ob < U2.heap.size := Nat.lt_of_lt_of_le hlo t2.size
        have T := T.trans t2
        clear t2 hS
        cases z
        · obtain ⟨x0, x1, x2, x3, x4, x5, x6, x7, x8, x9⟩ := X
          obtain ⟨o0, o1, o2, o3, o4, o5, o6, o7, o8, o9⟩ := O
          have q0 := fO 0
          have q1 := fO 1
          have q2 := fO 2
          have q3 := fO 3
          have q4 := fO 4
          have q5 := fO 5
          have q6 := fO 6
          have q7 := fO 7
          have q8 := fO 8
          have q9 := fO 9
          dsimp only at x0 x1 x2 x3 x4 x5 x6 x7 x8 x9 o0 o1 o2 o3 o4 o5 o6 o7 o8 o9
          go_wp2_with fail
          refine bodyPost_ret (v := .agg #[.bool true, .int .i64 rt, .int .i64 rk, .int .i64 rv, .string rst, .bool true, .int .i64 tt, .int .i64 xk, .int .i64 xv, .string xs]) (by simp [results, Tryz.results18, go_sem, *]) rfl ?_
          exact ⟨⟨⟨true, ⟨rt, rk, rv, rst⟩, true, ⟨tt, xk, xv, xs⟩⟩, rfl, hrs, hs9⟩, T.low (by go_grown), j + 1, by omega, ((((((((((hS2.setFar (p := ⟨ob, 0, none⟩) (by simp only; omega) _).setFar (p := ⟨ob, 1, none⟩) (by simp only; omega) _).setFar (p := ⟨ob, 2, none⟩) (by simp only; omega) _).setFar (p := ⟨ob, 3, none⟩) (by simp only; omega) _).setFar (p := ⟨ob, 4, none⟩) (by simp only; omega) _).setFar (p := ⟨ob, 5, none⟩) (by simp only; omega) _).setFar (p := ⟨ob, 6, none⟩) (by simp only; omega) _).setFar (p := ⟨ob, 7, none⟩) (by simp only; omega) _).setFar (p := ⟨ob, 8, none⟩) (by simp only; omega) _).setFar (p := ⟨ob, 9, none⟩) (by simp only; omega) _)⟩
        · obtain ⟨x0, x1, x2, x3, x4, x5, x6, x7, x8, x9⟩ := X
          have f5 := fX 5
          have f6 := fX 6
          have f7 := fX 7
          have f8 := fX 8
          have f9 := fX 9
          dsimp only at x0 x1 x2 x3 x4 x5 x6 x7 x8 x9
          go_upto_region 16 with (fail)
          generalize hU : World.setCell _ _ _ = U3
          have X : ChC U3 xb 0 ⟨true, ⟨rt, rk, rv, rst⟩, false, ⟨0, 0, 0, ⟨#[]⟩⟩⟩ := by rw [← hU]; clear hU; exact ⟨by simp [go_sem, *], by simp [go_sem, *], by simp [go_sem, *], by simp [go_sem, *], by simp [go_sem, *], by simp [go_sem, *], by simp [go_sem, *], by simp [go_sem, *], by simp [go_sem, *], by simp [go_sem, *]⟩
          have tU : Turned xb (xb + 1) U2 U3 := by rw [← hU]; exact ((((((Turned.refl _ _ _).setCell (p := ⟨xb, 5, none⟩) (Nat.le_refl _) (Nat.lt_succ_self _) _).setCell (p := ⟨xb, 6, none⟩) (Nat.le_refl _) (Nat.lt_succ_self _) _).setCell (p := ⟨xb, 7, none⟩) (Nat.le_refl _) (Nat.lt_succ_self _) _).setCell (p := ⟨xb, 8, none⟩) (Nat.le_refl _) (Nat.lt_succ_self _) _).setCell (p := ⟨xb, 9, none⟩) (Nat.le_refl _) (Nat.lt_succ_self _) _)
          have hS : SrcAt U3 b a n c zs (j + 1) := by rw [← hU]; exact (((((hS2.setFar (p := ⟨xb, 5, none⟩) (by simp only; omega) _).setFar (p := ⟨xb, 6, none⟩) (by simp only; omega) _).setFar (p := ⟨xb, 7, none⟩) (by simp only; omega) _).setFar (p := ⟨xb, 8, none⟩) (by simp only; omega) _).setFar (p := ⟨xb, 9, none⟩) (by simp only; omega) _)
          have T := T.low (tU.toBelow T.size hcx.2)
          have O := O.turned tU (.inl (by omega))
          have fO := froz_src tU hlo (.inl (by omega)) fO
          clear hU tU x0 x1 x2 x3 x4 x5 x6 x7 x8 x9 f5 f6 f7 f8 f9
          obtain ⟨x0, x1, x2, x3, x4, x5, x6, x7, x8, x9⟩ := X
          obtain ⟨o0, o1, o2, o3, o4, o5, o6, o7, o8, o9⟩ := O
          have q0 := fO 0
          have q1 := fO 1
          have q2 := fO 2
          have q3 := fO 3
          have q4 := fO 4
          have q5 := fO 5
          have q6 := fO 6
          have q7 := fO 7
          have q8 := fO 8
          have q9 := fO 9
          dsimp only at x0 x1 x2 x3 x4 x5 x6 x7 x8 x9 o0 o1 o2 o3 o4 o5 o6 o7 o8 o9
          go_wp2_with fail
          refine bodyPost_ret (v := .agg #[.bool true, .int .i64 rt, .int .i64 rk, .int .i64 rv, .string rst, .bool false, .int .i64 0, .int .i64 0, .int .i64 0, .string ⟨#[]⟩]) (by simp [results, Tryz.results18, go_sem, *]) rfl ?_
          exact ⟨⟨⟨true, ⟨rt, rk, rv, rst⟩, false, ⟨0, 0, 0, ⟨#[]⟩⟩⟩, rfl, hrs, Nat.zero_le 9⟩, T.low (by go_grown), j + 1, by omega, ((((((((((hS.setFar (p := ⟨ob, 0, none⟩) (by simp only; omega) _).setFar (p := ⟨ob, 1, none⟩) (by simp only; omega) _).setFar (p := ⟨ob, 2, none⟩) (by simp only; omega) _).setFar (p := ⟨ob, 3, none⟩) (by simp only; omega) _).setFar (p := ⟨ob, 4, none⟩) (by simp only; omega) _).setFar (p := ⟨ob, 5, none⟩) (by simp only; omega) _).setFar (p := ⟨ob, 6, none⟩) (by simp only; omega) _).setFar (p := ⟨ob, 7, none⟩) (by simp only; omega) _).setFar (p := ⟨ob, 8, none⟩) (by simp only; omega) _).setFar (p := ⟨ob, 9, none⟩) (by simp only; omega) _)⟩
      · clear hA
        obtain ⟨x0, x1, x2, x3, x4, x5, x6, x7, x8, x9⟩ := X
        obtain ⟨o0, o1, o2, o3, o4, o5, o6, o7, o8, o9⟩ := O
        have q0 := fO 0
        have q1 := fO 1
        have q2 := fO 2
        have q3 := fO 3
        have q4 := fO 4
        have q5 := fO 5
        have q6 := fO 6
        have q7 := fO 7
        have q8 := fO 8
        have q9 := fO 9
        dsimp only at x0 x1 x2 x3 x4 x5 x6 x7 x8 x9 o0 o1 o2 o3 o4 o5 o6 o7 o8 o9
        go_wp2_with fail
        refine bodyPost_ret (v := .agg #[.bool false, .int .i64 0, .int .i64 0, .int .i64 0, .string ⟨#[]⟩, .bool true, .int .i64 tt, .int .i64 xk, .int .i64 xv, .string xs]) (by simp [results, Tryz.results18, go_sem, *]) rfl ?_
        exact ⟨⟨⟨false, ⟨0, 0, 0, ⟨#[]⟩⟩, true, ⟨tt, xk, xv, xs⟩⟩, rfl, Nat.zero_le 9, hs9⟩, T.low (by go_grown), j, by omega, ((((((((((hS.setFar (p := ⟨ob, 0, none⟩) (by simp only; omega) _).setFar (p := ⟨ob, 1, none⟩) (by simp only; omega) _).setFar (p := ⟨ob, 2, none⟩) (by simp only; omega) _).setFar (p := ⟨ob, 3, none⟩) (by simp only; omega) _).setFar (p := ⟨ob, 4, none⟩) (by simp only; omega) _).setFar (p := ⟨ob, 5, none⟩) (by simp only; omega) _).setFar (p := ⟨ob, 6, none⟩) (by simp only; omega) _).setFar (p := ⟨ob, 7, none⟩) (by simp only; omega) _).setFar (p := ⟨ob, 8, none⟩) (by simp only; omega) _).setFar (p := ⟨ob, 9, none⟩) (by simp only; omega) _)⟩

end Go.Proofs.YtmnnkgcknkhgdaaGreatDoor

