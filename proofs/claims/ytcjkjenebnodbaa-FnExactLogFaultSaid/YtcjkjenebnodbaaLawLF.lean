/-
  The law FnExactLogFault answers true at all logs.
-/
import Derived.Test.YtcjkjenebnodbaaLfs
import Derived.Test.YtcjkjenebnodbaaRdl
namespace Go.Proofs.Ytcjkjenebnodbaa
open Go.RowKit
set_option linter.unusedVariables false

/-- What the law carries: the argument in its box, the copy in its own, and its bytes. -/
structure LfS (w : World) (bx : Nat) (x y : Option Addr) (n c m d : Nat) (p q : Option Addr) (xs ys : List Int) (lo mid hi : Nat) (V : World) : Prop where
  r0 : LgAt V w.heap.size x n c y m d
  r1 : LgAt V bx p n n q m m
  o : LogIn lo mid hi V p q xs ys
  g : Below w.heap.size w V
theorem LfS.up {w : World} {bx : Nat} {x y : Option Addr} {n c m d : Nat} {p q : Option Addr} {xs ys : List Int} {lo mid hi : Nat} {V W : World} (h : LfS w bx x y n c m d p q xs ys lo mid hi V) (hb : Below V.heap.size V W) : LfS w bx x y n c m d p q xs ys lo mid hi W :=
  ⟨h.r0.up hb, h.r1.up hb, h.o.below hb, h.g.trans (hb.mono h.g.size)⟩

set_option maxHeartbeats 1000000 in
theorem lawLogFault_fits (x y : Option Addr) (xs ys : List Int) (c d : Nat) (w : World) (hn : xs.length ≤ 9223372036854775807) (hm : ys.length ≤ 9223372036854775807) (hx : Reads w x xs) (hy : Reads w y ys) (hxb : ∀ z ∈ xs, 0 ≤ z ∧ z ≤ 255) (hyb : ∀ z ∈ ys, 0 ≤ z ∧ z ≤ 255) :
    Calls Try.prog 9 #[.agg #[.slice x xs.length c, .slice y ys.length d]] w fun e w' => e = .returned (.bool true) ∧ Below w.heap.size w w' := by
  have HT : Hid (xs.length + ys.length ≤ 1048576 → ∀ X, Below w.heap.size w X → Calls Try.prog 55 #[.agg #[.slice x xs.length c, .slice y ys.length d]] X fun e w' => ∃ p q mid, e = .returned (.agg #[.slice p xs.length xs.length, .slice q ys.length ys.length]) ∧ Below X.heap.size X w' ∧ LogIn X.heap.size mid w'.heap.size w' p q xs ys) := fun hl X g => toLog_any x y xs ys xs.length c ys.length d X rfl rfl (by omega) (by omega) (hx.below g (Nat.le_refl _)) (hy.below g (Nat.le_refl _))
  have HSp : Hid (xs.length + ys.length ≤ 1048576 → ∀ X (p q : Option Addr) (lo mid hi : Nat), LogIn lo mid hi X p q xs ys → Calls Try.prog 54 #[.agg #[.slice p xs.length xs.length, .slice q ys.length ys.length]] X fun e w' => e = .returned (.int .i64 (lfQ xs ys)) ∧ Below X.heap.size X w') := fun hl X p q lo mid hi o => specLogFault_any p q xs ys xs.length ys.length X (by omega) (by omega) (Nat.le_refl _) (Nat.le_refl _) hn hm o.s.reads o.l.reads hxb hyb
  have HI : Hid (xs.length + ys.length ≤ 1048576 → ∀ X (p q : Option Addr) (lo mid hi : Nat), LogIn lo mid hi X p q xs ys → Calls Try.prog 28 #[.agg #[.slice p xs.length xs.length, .slice q ys.length ys.length]] X fun e w' => e = .returned (.int .i64 (lfQ xs ys)) ∧ Below X.heap.size X w') := fun hl X p q lo mid hi o => implLogFault_any p q xs ys xs.length ys.length X (by omega) (by omega) (Nat.le_refl _) (Nat.le_refl _) hn hm o.s.reads o.l.reads hxb hyb
  have HEq : Hid (xs.length + ys.length ≤ 1048576 → ∀ (p q p' q' : Option Addr) (lo mid hi lo' mid' hi' : Nat) (X : World), LogIn lo mid hi X p q xs ys → LogIn lo' mid' hi' X p' q' xs ys → Calls Try.prog 56 #[.agg #[.slice p xs.length xs.length, .slice q ys.length ys.length], .agg #[.slice p' xs.length xs.length, .slice q' ys.length ys.length]] X fun e w' => e = .returned (.bool true) ∧ Below X.heap.size X w') := fun hl p q p' q' lo mid hi lo' mid' hi' X h1 h2 => eqLog_same p q p' q' xs ys _ _ _ _ _ _ lo mid hi lo' mid' hi' X rfl rfl (by omega) (by omega) h1 h2
  clear hx hy hxb hyb
  generalize lfQ xs ys = qq at HSp HI
  generalize xs.length = n at HT HSp HI HEq hn ⊢
  generalize ys.length = m at HT HSp HI HEq hm ⊢
  go_enter Try.func9, Try.ntmps9
  go_upto_region 1 with (fail)
  generalize hY : World.alloc w _ = Y
  have g : Below w.heap.size w Y := by rw [← hY]; go_grown
  have hB : LgAt Y w.heap.size x n c y m d := by rw [← hY]; exact ⟨by simp [go_sem], by simp [go_sem]⟩
  clear hY
  obtain ⟨c0, c1⟩ := hB
  have hB : LgAt Y w.heap.size x n c y m d := ⟨c0, c1⟩
  go_wp2_with fail
  refine (szLog_any x y n c m d _ hn hm).mono ?_
  rintro e w1 ⟨⟨r, rfl, hl⟩, g1⟩
  have hB := hB.up g1
  have g : Below w.heap.size w w1 := g.trans (g1.mono g.size)
  clear g1 c0 c1
  rcases hl with hl | ⟨h0, hl⟩
  · subst hl
    go_wp2_with fail
    go_ret
    exact ⟨rfl, g⟩
  have hl1 : n + m ≤ 1048576 := by omega
  have h0 : ¬ (r < 0) := by omega
  clear hl
  obtain ⟨c0, c1⟩ := hB
  have hB : LgAt w1 w.heap.size x n c y m d := ⟨c0, c1⟩
  go_wp2_with fail
  refine (HT.out hl1 _ g).mono ?_
  rintro e w2 ⟨p2, q2, mid2, rfl, g1, o2⟩
  have hB := hB.up g1
  have g : Below w.heap.size w w2 := g.trans (g1.mono g.size)
  clear g1 c0 c1
  go_wp2_with fail
  refine (HSp.out hl1 _ _ _ _ _ _ o2).mono ?_
  rintro e w3 ⟨rfl, g1⟩
  have hB := hB.up g1
  have g : Below w.heap.size w w3 := g.trans (g1.mono g.size)
  clear g1 o2
  obtain ⟨c0, c1⟩ := hB
  have hB : LgAt w3 w.heap.size x n c y m d := ⟨c0, c1⟩
  go_wp2_with fail
  refine (HT.out hl1 _ g).mono ?_
  rintro e w4 ⟨p, q, mid, rfl, g1, o4⟩
  have hB := hB.up g1
  have g : Below w.heap.size w w4 := g.trans (g1.mono g.size)
  clear g1 c0 c1
  go_upto_region 7 with (fail)
  generalize hY : World.alloc w4 _ = Y4
  have g1 : Below w4.heap.size w4 Y4 := by rw [← hY]; go_grown
  have hHeld : LfS w w4.heap.size x y n c m d p q xs ys w3.heap.size mid w4.heap.size Y4 :=
    ⟨hB.up g1, by rw [← hY]; exact ⟨by simp [go_sem], by simp [go_sem]⟩, o4.below g1, g.trans (g1.mono g.size)⟩
  clear hY g1 hB g o4
  generalize w4.heap.size = bx at hHeld ⊢
  obtain ⟨c0, c1⟩ := hHeld.r1
  go_wp2_with fail
  refine (HI.out hl1 _ _ _ _ _ _ hHeld.o).mono ?_
  rintro e w5 ⟨rfl, g1⟩
  have hHeld := hHeld.up g1
  clear g1 c0 c1
  go_wp2_with fail
  refine wp_region_held_drew (S := fun V => LfS w bx x y n c m d p q xs ys w3.heap.size mid bx V) (by kernel_rfl) (hHeld.up (Below.refl _ _).drew) (fun hHeld => ?_)
  generalize w5.drew = D at hHeld ⊢
  refine wpAnyH_take (i := 0) (v := ?v1) rfl (by kernel_rfl) (by kernel_rfl) (by kernel_rfl) (fun _ _ _ h => h) (Or.inl ⟨by kernel_rfl, ?h1⟩) hHeld ?_
  case h1 => intro u hSw; obtain ⟨q0, q1⟩ := hSw.r1; clear hSw; go_simp; try with_reducible rfl
  try simp only [List.getElem_toArray]
  try simp only [List.getElem_cons_succ]
  try simp only [List.getElem_cons_zero]
  try simp only [Act.put]
  try simp only [List.setIfInBounds_toArray]
  try simp only [List.set]
  refine wpAnyH_take (i := 1) (v := ?v2) rfl (by kernel_rfl) (by kernel_rfl) (by kernel_rfl) (fun _ _ _ h => h) (Or.inl ⟨by kernel_rfl, ?h2⟩) hHeld ?_
  case h2 => intro u hSw; obtain ⟨q0, q1⟩ := hSw.r0; clear hSw; go_simp; try with_reducible rfl
  try simp only [List.getElem_toArray]
  try simp only [List.getElem_cons_succ]
  try simp only [List.getElem_cons_zero]
  try simp only [Act.put]
  try simp only [List.setIfInBounds_toArray]
  try simp only [List.set]
  refine wpAnyH_ready (rs := [2]) (by kernel_rfl) (by simp) ?_
  refine AllReadyH.cons rfl (fun K hK => ?_) AllReadyH.nil
  go_simp
  go_wp2_with (go_at_call 55; refine (HT.out hl1 _ hHeld.g).mono ?_; rintro e w8 ⟨p8, q8, mid8, rfl, hb, o8⟩)
  refine hK.out _ _ (hHeld.up hb) (fun hHeld => ?_)
  clear hK K
  clear hb
  try simp only [Act.put]
  try simp only [List.setIfInBounds_toArray]
  try simp only [List.set]
  refine wpAnyH_ready (rs := [3]) (by kernel_rfl) (by simp) ?_
  refine AllReadyH.cons rfl (fun K hK => ?_) AllReadyH.nil
  go_simp
  go_wp2_with (go_at_call 56; refine (HEq.out hl1 _ _ _ _ _ _ _ _ _ _ _ hHeld.o o8).mono ?_; rintro e w9 ⟨rfl, hb⟩)
  refine hK.out _ _ (hHeld.up hb) (fun hHeld => ?_)
  clear hK K
  clear hb o8
  try simp only [Act.put]
  try simp only [List.setIfInBounds_toArray]
  try simp only [List.set]
  refine wpAnyH_take (i := 4) (v := ?v3) rfl (by kernel_rfl) (by kernel_rfl) (by kernel_rfl) (fun _ _ _ h => h) (Or.inl ⟨by kernel_rfl, ?h3⟩) hHeld ?_
  case h3 => intro u hSw; (try dsimp only at hSw); go_simp; try with_reducible rfl
  try simp only [List.getElem_toArray]
  try simp only [List.getElem_cons_succ]
  try simp only [List.getElem_cons_zero]
  try simp only [Act.put]
  try simp only [List.setIfInBounds_toArray]
  try simp only [List.set]
  refine wpAnyH_done (by kernel_rfl) ?_ _
  have g := hHeld.g
  clear hHeld
  go_wp2_with fail
  go_ret
  exact ⟨rfl, g⟩

theorem lawLogFault_any (x : Option Addr) (n c : Nat) (zs : List Int) (y : Option Addr) (m d : Nat) (us : List Int) (w : World) (h : IsRow .u8 w x n c zs) (k : IsRow .u8 w y m d us) :
    Calls Try.prog 9 #[.agg #[.slice x n c, .slice y m d]] w fun e w' => e = .returned (.bool true) ∧ Below w.heap.size w w' := by
  obtain ⟨hn, _, hr, hz⟩ := isRow_reads h
  obtain ⟨hm, _, kr, kz⟩ := isRow_reads k
  have h1 := isRow_small h
  have h2 := isRow_small k
  have := lawLogFault_fits x y (zs.take n) (us.take m) c d w (by omega) (by omega) hr kr hz kz
  rw [hn, hm] at this
  exact this

end Go.Proofs.Ytcjkjenebnodbaa
