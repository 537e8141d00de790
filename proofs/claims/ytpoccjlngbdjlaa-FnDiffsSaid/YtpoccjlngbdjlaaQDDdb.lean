/-
  What DrawDiffBytes hands back: two pages, or a page and one without its first byte.
-/
import Derived.Test.YtpoccjlngbdjlaaQDTwo
import Derived.Test.YtpoccjlngbdjlaaQInv

namespace Go.Proofs.Ytpoccjlngbdjlaa.Dr
open Go.RowKit
set_option linter.unusedVariables false

/-- A page, and bytes beside it. -/
structure TwoB (base : Nat) (w : World) (g : Nat) (ys : List Int) (g2 o m : Nat) (ys2 : List Int) : Prop where
  y : BytesIn base w.heap.size w (some ⟨g, 0, none⟩) ys
  y2 : BytesIn base w.heap.size w (some ⟨g2, o, none⟩) ys2
  l : ys.length = 64
  l2 : ys2.length = m
  m2 : m = 64 ∨ m = 63
  b : ∀ z ∈ ys, 0 ≤ z ∧ z ≤ 255
  b2 : ∀ z ∈ ys2, 0 ≤ z ∧ z ≤ 255

set_option maxHeartbeats 2000000 in
theorem drawDiffBytes_any (a : Option Addr) (n c : Nat) (zs : List Int) (w : World) (rd : Reads w a zs) (hn : zs.length = n) (hm : n ≤ 1048576) (hz : ∀ z ∈ zs, 0 ≤ z ∧ z ≤ 255) :
    Calls Try.prog 9 #[.slice a n c] w fun e w' => ∃ g dd ys g2 o m d2 ys2, e = .returned (.tuple #[.slice (some ⟨g, 0, none⟩) 64 dd, .slice (some ⟨g2, o, none⟩) m d2]) ∧ 64 ≤ dd ∧ m ≤ d2 ∧ TwoB w.heap.size w' g ys g2 o m ys2 ∧ Below w.heap.size w w' := by
  go_enter Try.func9, Try.ntmps9
  go_wp2_with fail
  refine (l1Source_any a n c zs w rd hn hm hz).mono ?_
  rintro e w1 ⟨rfl, g1, hlt, hS⟩
  go_wp2_with fail
  refine (l3Two_any _ a n c zs 0 w1 hS (by omega)).mono ?_
  rintro e w2 ⟨g, dd, ys, g2, d2, ys2, mid, rfl, hdd, hd2, hTw, hT, ⟨j, hj, hS⟩⟩
  have gB : Below w.heap.size w w2 := g1.trans (hT.toBelow (Nat.le_of_lt hlt) (Nat.le_refl _))
  have hsz := hT.size
  clear g1 hT
  go_wp2_with fail
  refine (l1Chance_any _ a n c zs j 12 _ hS (by omega) (by omega) (by omega)).mono ?_
  rintro e w3 ⟨⟨r, rfl⟩, ht, hS⟩
  have hY := hTw.y.turned ht (.inr (by omega))
  have hbm := hTw.bm
  have hY2 := (hTw.y2.turned ht (.inr (by omega))).mono (Nat.le_refl _) ht.size
  have gB := gB.trans (ht.toBelow (by omega) (Nat.le_refl _))
  have hmid : mid ≤ w2.heap.size := by
    rcases hTw.y2 with h | ⟨b, off, ha, h1, h2, _⟩
    · have := hTw.l2; rw [h] at this; simp at this
    · omega
  have hsz3 := ht.size
  obtain ⟨_, _, l, l2, b1, b2, _⟩ := hTw
  have HB : Hid (BytesIn w.heap.size w3.heap.size w3 (some ⟨g, 0, none⟩) ys) := hY.mono (by omega) (by omega)
  have HB2 : Hid (BytesIn w.heap.size w3.heap.size w3 (some ⟨g2, 0, none⟩) ys2) := hY2.mono (by omega) (Nat.le_refl _)
  clear ht hS hY hY2
  have hd1 : ¬ (d2 = 1) := by omega
  have hd3 : (1 : Int) ≤ (d2 : Int) := by omega
  cases r
  · go_wp2_with fail
    refine bodyPost_ret (v := .tuple #[.slice (some ⟨g, 0, none⟩) 64 dd, .slice (some ⟨g2, 0, none⟩) 64 d2]) (by simp [results, Try.results9, go_sem]) rfl ?_
    exact ⟨g, dd, ys, g2, 0, 64, d2, ys2, rfl, hdd, hd2, ⟨HB.out, HB2.out, l, l2, .inl rfl, b1, b2⟩, gB⟩
  · go_wp2_with fail
    go_region
    all_goals
      go_wp2_with fail
      refine bodyPost_ret (v := .tuple #[.slice (some ⟨g, 0, none⟩) 64 dd, .slice (some ⟨g2, 1, none⟩) 63 (d2 - 1)]) (by simp [results, Try.results9, go_sem]) rfl ?_
      exact ⟨g, dd, ys, g2, 1, 63, d2 - 1, ys2.drop 1, rfl, hdd, by omega, ⟨HB.out, bytesIn_tail HB2.out, l, by rw [List.length_drop, l2], .inr rfl, b1, fun z hz => b2 z (List.mem_of_mem_drop hz)⟩, by first | exact gB | exact below_draws gB 1⟩

end Go.Proofs.Ytpoccjlngbdjlaa.Dr

/-
  What compares, marks and looks through a RunsResult.
-/
namespace Go.Proofs.Ytpoccjlngbdjlaa
open Go.RowKit
set_option linter.unusedVariables false

set_option maxHeartbeats 400000 in
theorem eqRunS_sameS (a b : Option Addr) (n c d : Nat) (P : Nat → Int) (A B : Nat → Option Addr) (C D : Nat → Nat) (Z : Nat → List Int) (F G : Nat → Nat) (la ua lb ub : Nat) (w : World) (hm : n + took Z n ≤ 1048576) (hx : OwnS la ua w a n P A C Z F) (hy : OwnS lb ub w b n P B D Z G) :
    Calls Try.prog 27 #[.slice a n c, .slice b n d] w fun e w' => e = .returned (.bool true) ∧ Below w.heap.size w w' := by
  by_cases h0 : n = 0
  · subst h0
    go_enter Try.func27, Try.ntmps27
    go_wp2_with fail
    go_rounds 1
    go_ret
    exact ⟨rfl, Below.refl _ _⟩
  · obtain ⟨x, rfl, hx'⟩ := hx.resolve_left h0
    obtain ⟨y, rfl, hy'⟩ := hy.resolve_left h0
    exact eqRunS_same x y n c d P A B C D Z F G la ua lb ub w hm hx' hy'

set_option maxHeartbeats 400000 in
theorem markRunS_S (a : Option Addr) (n c : Nat) (lo hi : Nat) (P : Nat → Int) (A : Nat → Option Addr) (C : Nat → Nat) (Z : Nat → List Int) (F : Nat → Nat) (k : Int) (w : World) (hm : n + took Z n ≤ 1048576) (hk0 : 0 ≤ k) (hk1 : k ≤ 10000000) (h : OwnS lo hi w a n P A C Z F) :
    Calls Try.prog 29 #[.slice a n c, .int .i64 k] w fun e w' => e = .returned (.int .i64 (mk Z k n)) ∧ Turned lo hi w w' ∧ OwnS lo hi w' a n (mk Z k) A C (mZ Z k) F := by
  by_cases h0 : n = 0
  · subst h0
    go_enter Try.func29, Try.ntmps29
    go_wp2_with fail
    go_rounds 1
    go_ret
    exact ⟨by simp [mk, took], Turned.refl _ _ _, .inl rfl⟩
  · obtain ⟨x, rfl, hx⟩ := h.resolve_left h0
    refine (markRunS_own x n c lo hi P A C Z F k w hm hk0 hk1 hx).mono ?_
    rintro e w' ⟨he, ht, ho⟩
    exact ⟨he, ht, .inr ⟨x, rfl, ho⟩⟩

set_option maxHeartbeats 400000 in
theorem heldRunS_S (a : Option Addr) (n c : Nat) (lo hi : Nat) (A : Nat → Option Addr) (C : Nat → Nat) (Z : Nat → List Int) (F : Nat → Nat) (k : Int) (w : World) (hm : n + took Z n ≤ 1048576) (hk0 : 0 ≤ k) (hk1 : k ≤ 10000000) (h : OwnS lo hi w a n (mk Z k) A C (mZ Z k) F) :
    Calls Try.prog 46 #[.slice a n c, .int .i64 k] w fun e w' => e = .returned (.int .i64 (mk Z k n)) ∧ w' = w := by
  by_cases h0 : n = 0
  · subst h0
    go_enter Try.func46, Try.ntmps46
    go_wp2_with fail
    go_rounds 1
    go_ret
    exact ⟨by simp [mk, took], rfl⟩
  · obtain ⟨x, rfl, hx⟩ := h.resolve_left h0
    exact heldRunS_own x n c lo hi A C Z F k w hm hk0 hk1 hx

set_option maxHeartbeats 400000 in
theorem eqRunsResult_same (q : Int) (a b : Option Addr) (n c d : Nat) (P : Nat → Int) (A B : Nat → Option Addr) (C D : Nat → Nat) (Z : Nat → List Int) (F G : Nat → Nat) (la ua lb ub : Nat) (w : World) (hm : n + took Z n ≤ 1048576) (hx : OwnS la ua w a n P A C Z F) (hy : OwnS lb ub w b n P B D Z G) :
    Calls Try.prog 19 #[.agg #[.int .i64 q, .slice a n c], .agg #[.int .i64 q, .slice b n d]] w fun e w' => e = .returned (.bool true) ∧ Below w.heap.size w w' := by
  go_enter Try.func19, Try.ntmps19
  go_wp2_with fail
  refine (eqRunS_sameS a b n c d P A B C D Z F G la ua lb ub _ hm (hx.below (by go_grown)) (hy.below (by go_grown))).mono ?_
  rintro e w' ⟨rfl, g⟩
  have g : Below w.heap.size w w' := Below.trans (by go_grown) (g.mono (by simp; omega))
  go_wp2_with fail
  go_ret
  exact ⟨rfl, g⟩

set_option maxHeartbeats 400000 in
theorem markRunsResult_any (q : Int) (a : Option Addr) (n c : Nat) (lo hi : Nat) (P : Nat → Int) (A : Nat → Option Addr) (C : Nat → Nat) (Z : Nat → List Int) (F : Nat → Nat) (k : Int) (w : World) (hm : n + took Z n ≤ 1048576) (hk0 : 0 ≤ k) (hk1 : k ≤ 10000000) (h : OwnS lo hi w a n P A C Z F) :
    Calls Try.prog 22 #[.agg #[.int .i64 q, .slice a n c], .int .i64 k] w fun e w' => e = .returned (.int .i64 (mk Z k n)) ∧ Turned lo hi w w' ∧ OwnS lo hi w' a n (mk Z k) A C (mZ Z k) F := by
  go_enter Try.func22, Try.ntmps22
  go_wp2_with fail
  refine (markRunS_S a n c lo hi P A C Z F k _ hm hk0 hk1 (h.below (by go_grown))).mono ?_
  rintro e w' ⟨rfl, ht, ho⟩
  have h1 : Turned lo hi w w' := Turned.trans (Turned.ofBelow (by go_grown)) ht
  clear ht
  go_wp2_with fail
  go_ret
  exact ⟨rfl, h1, ho⟩

set_option maxHeartbeats 400000 in
theorem heldRunsResult_any (q : Int) (a : Option Addr) (n c : Nat) (lo hi : Nat) (A : Nat → Option Addr) (C : Nat → Nat) (Z : Nat → List Int) (F : Nat → Nat) (k : Int) (w : World) (hm : n + took Z n ≤ 1048576) (hk0 : 0 ≤ k) (hk1 : k ≤ 10000000) (h : OwnS lo hi w a n (mk Z k) A C (mZ Z k) F) :
    Calls Try.prog 23 #[.agg #[.int .i64 q, .slice a n c], .int .i64 k] w fun e w' => e = .returned (.int .i64 (mk Z k n)) ∧ Below w.heap.size w w' := by
  obtain ⟨r, hr⟩ : ∃ r, r = mk Z k n := ⟨_, rfl⟩
  have hpos : ¬ (r < 0) := by rw [hr]; unfold mk; omega
  have HR : Hid (mk Z k n = r) := hr.symm
  clear hr
  go_enter Try.func23, Try.ntmps23
  go_wp2_with fail
  refine (heldRunS_S a n c lo hi A C Z F k _ hm hk0 hk1 (h.below (by go_grown))).mono ?_
  rintro e w' ⟨rfl, hw⟩
  subst w'
  rw [HR.out]
  go_wp2_with fail
  go_ret
  exact ⟨by rw [HR.out]; rfl, by go_grown⟩

theorem took_le (Z : Nat → List Int) (c : Nat) : ∀ n, (∀ i, i < n → (Z i).length ≤ c) → took Z n ≤ c * n
  | 0, _ => by simp [took]
  | n + 1, h => by
    have h1 := took_le Z c n (fun i hi => h i (by omega))
    have h2 := h n (by omega)
    simp only [took]
    rw [Nat.mul_succ]
    omega

/-- Behind the start w: block ba holds the model's answer with n2 runs at a, block bb the program's with as many at b; xs are the bytes that were handed in, at x, and block rr holds the n runs that were. -/
structure RrSt (w : World) (q : Int) (n2 : Nat) (P1 : Nat → Int) (Z1 : Nat → List Int) (ba : Nat) (a : Option Addr) (c : Nat) (A1 : Nat → Option Addr) (C1 F1 : Nat → Nat) (P2 : Nat → Int) (Z2 : Nat → List Int) (bb : Nat) (b : Option Addr) (d : Nat) (A2 : Nat → Option Addr) (C2 F2 : Nat → Nat) (xs : List Int) (x : Option Addr) (rr : Option Addr) (n : Nat) (P : Nat → Int) (A : Nat → Option Addr) (C : Nat → Nat) (Z : Nat → List Int) (F : Nat → Nat) (l1 l2 l3 l4 : Nat) (W : World) : Prop where
  ra : ResAt W ba q a n2 c
  rb : ResAt W bb q b n2 d
  ya : OwnS w.heap.size l1 W a n2 P1 A1 C1 Z1 F1
  yx : BytesIn l1 l2 W x xs
  yr : OwnS l2 l3 W rr n P A C Z F
  yb : OwnS l3 l4 W b n2 P2 A2 C2 Z2 F2
  sa : ba < l1
  sb : l4 ≤ bb
  sw : bb < W.heap.size
  s0 : w.heap.size ≤ l1
  s1 : l1 ≤ l2
  s2 : l2 ≤ l3
  s3 : l3 ≤ l4
  g : Below w.heap.size w W

section
variable {w : World} {q : Int} {n2 : Nat} {P1 : Nat → Int} {Z1 : Nat → List Int} {ba : Nat} {a : Option Addr} {c : Nat} {A1 : Nat → Option Addr} {C1 F1 : Nat → Nat} {P2 P2' : Nat → Int} {Z2 Z2' : Nat → List Int} {bb : Nat} {b : Option Addr} {d : Nat} {A2 : Nat → Option Addr} {C2 F2 : Nat → Nat} {xs zs : List Int} {x rr : Option Addr} {n : Nat} {P P' : Nat → Int} {A : Nat → Option Addr} {C : Nat → Nat} {Z Z' : Nat → List Int} {F : Nat → Nat} {l1 l2 l3 l4 : Nat} {W V : World}
theorem RrSt.step (h : RrSt w q n2 P1 Z1 ba a c A1 C1 F1 P2 Z2 bb b d A2 C2 F2 xs x rr n P A C Z F l1 l2 l3 l4 W) (hb : Below W.heap.size W V) : RrSt w q n2 P1 Z1 ba a c A1 C1 F1 P2 Z2 bb b d A2 C2 F2 xs x rr n P A C Z F l1 l2 l3 l4 V :=
  ⟨h.ra.below hb, h.rb.below hb, h.ya.below hb, h.yx.below hb, h.yr.below hb, h.yb.below hb, h.sa, h.sb, Nat.lt_of_lt_of_le h.sw hb.size, h.s0, h.s1, h.s2, h.s3, h.g.trans (hb.mono h.g.size)⟩
theorem RrSt.turnX (h : RrSt w q n2 P1 Z1 ba a c A1 C1 F1 P2 Z2 bb b d A2 C2 F2 xs x rr n P A C Z F l1 l2 l3 l4 W) (ht : Turned l1 l2 W V) (hy : BytesIn l1 l2 V x zs) : RrSt w q n2 P1 Z1 ba a c A1 C1 F1 P2 Z2 bb b d A2 C2 F2 zs x rr n P A C Z F l1 l2 l3 l4 V :=
  ⟨h.ra.turned ht (.inl h.sa), h.rb.turned ht (.inr (by have := h.sb; have := h.s2; have := h.s3; omega)), h.ya.turned ht (.inl (Nat.le_refl _)), hy, h.yr.turned ht (.inr (Nat.le_refl _)), h.yb.turned ht (.inr h.s2), h.sa, h.sb, Nat.lt_of_lt_of_le h.sw ht.size, h.s0, h.s1, h.s2, h.s3, h.g.trans (ht.toBelow h.g.size h.s0)⟩
theorem RrSt.turnR (h : RrSt w q n2 P1 Z1 ba a c A1 C1 F1 P2 Z2 bb b d A2 C2 F2 xs x rr n P A C Z F l1 l2 l3 l4 W) (ht : Turned l2 l3 W V) (hy : OwnS l2 l3 V rr n P' A C Z' F) : RrSt w q n2 P1 Z1 ba a c A1 C1 F1 P2 Z2 bb b d A2 C2 F2 xs x rr n P' A C Z' F l1 l2 l3 l4 V :=
  ⟨h.ra.turned ht (.inl (by have := h.sa; have := h.s1; omega)), h.rb.turned ht (.inr (by have := h.sb; have := h.s3; omega)), h.ya.turned ht (.inl h.s1), h.yx.turned ht (.inl (Nat.le_refl _)), hy, h.yb.turned ht (.inr (Nat.le_refl _)), h.sa, h.sb, Nat.lt_of_lt_of_le h.sw ht.size, h.s0, h.s1, h.s2, h.s3, h.g.trans (ht.toBelow h.g.size (Nat.le_trans h.s0 h.s1))⟩
theorem RrSt.turnB (h : RrSt w q n2 P1 Z1 ba a c A1 C1 F1 P2 Z2 bb b d A2 C2 F2 xs x rr n P A C Z F l1 l2 l3 l4 W) (ht : Turned l3 l4 W V) (hy : OwnS l3 l4 V b n2 P2' A2 C2 Z2' F2) : RrSt w q n2 P1 Z1 ba a c A1 C1 F1 P2' Z2' bb b d A2 C2 F2 xs x rr n P A C Z F l1 l2 l3 l4 V :=
  ⟨h.ra.turned ht (.inl (by have := h.sa; have := h.s1; have := h.s2; omega)), h.rb.turned ht (.inr h.sb), h.ya.turned ht (.inl (Nat.le_trans h.s1 h.s2)), h.yx.turned ht (.inl h.s2), h.yr.turned ht (.inl (Nat.le_refl _)), hy, h.sa, h.sb, Nat.lt_of_lt_of_le h.sw ht.size, h.s0, h.s1, h.s2, h.s3, h.g.trans (ht.toBelow h.g.size (Nat.le_trans h.s0 (Nat.le_trans h.s1 h.s2)))⟩
end

end Go.Proofs.Ytpoccjlngbdjlaa
