/-
  Keys in lists: slices.Index, slices.Contains, has; l10Locks, l10Key, isKey, l10KeyOf.
-/
import Derived.Test.YtpjlpnaamkbicaaGreatDoorCKTxc
import Derived.Test.YtpjlpnaamkbicaaGreatDoorCKFci
import Derived.Test.YtpjlpnaamkbicaaGreatDoorCKFcs

namespace Go.Proofs.YtpjlpnaamkbicaaGreatDoor
open Go.RowKit Go.Maps
set_option linter.unusedVariables false
set_option maxRecDepth 20000

/-- Whether two keys are one; whether a list has a key; whether it is a key at all. -/
def kEq (a b : K2) : Bool := (a.x == b.x) && (a.y == b.y)
def hasK (l : List K2) (k : K2) : Bool := l.any fun e => kEq e k
def keyB (k : K2) : Bool := inW k.x 0 3 && inW k.y 1 99
theorem kEq_symm (a b : K2) : kEq a b = kEq b a := by
  unfold kEq
  rw [Bool.eq_iff_iff]
  simp only [Bool.and_eq_true, beq_iff_eq]
  omega
theorem kEq_iff {a b : K2} : kEq a b = true ↔ a = b := by
  obtain ⟨a1, a2⟩ := a
  obtain ⟨b1, b2⟩ := b
  unfold kEq
  simp
theorem hasK_yes {l : List K2} {k e : K2} {j : Nat} (h : l[j]? = some e) (he : kEq e k = true) : hasK l k = true :=
  List.any_eq_true.2 ⟨e, List.mem_of_getElem? h, he⟩
theorem hasK_no {l : List K2} {k : K2} (h : ∀ e ∈ l, kEq e k = false) : hasK l k = false := by
  unfold hasK
  rw [List.any_eq_false]
  intro e he
  rw [h e he]
  simp
theorem take_all {α : Type} {l : List α} {p : α → Prop} {j : Nat} {e : α} (h : ∀ x ∈ l.take j, p x) (hx : l[j]? = some e) (he : p e) : ∀ x ∈ l.take (j + 1), p x := fun x hm => by
  rw [take_snoc hx] at hm
  rcases List.mem_append.1 hm with hm | hm
  · exact h x hm
  · rw [List.mem_singleton.1 hm]; exact he
theorem take_whole {α : Type} {l : List α} {p : α → Prop} {n : Nat} (hn : l.length = n) (h : ∀ x ∈ l.take n, p x) : ∀ x ∈ l, p x := fun x hm => h x (by rw [List.take_of_length_le (by omega)]; exact hm)

set_option maxHeartbeats 400000 in
theorem isKey_any (x y : Int) (w : World) : Calls Tryz.prog 113 #[.agg #[.int .i64 x, .int .i64 y]] w fun e w' => e = .returned (.bool (keyB ⟨x, y⟩)) ∧ Below w.heap.size w w' := by
  have h1 := fun W => isWithinW_any x 0 3 W
  have h2 := fun W => isWithinW_any y 1 99 W
  have HE : Hid (keyB ⟨x, y⟩ = (inW x 0 3 && inW y 1 99)) := rfl
  generalize inW x 0 3 = a at h1 HE
  generalize inW y 1 99 = b at h2 HE
  cases a
  · go_enter Tryz.func113, Tryz.ntmps113
    go_wp2_with fail
    refine (h1 _).mono ?_
    rintro e w' ⟨rfl, hw⟩
    subst w'
    go_wp2_with fail
    go_ret
    exact ⟨by rw [HE.out]; rfl, by go_grown⟩
  · go_enter Tryz.func113, Tryz.ntmps113
    go_wp2_with fail
    refine (h1 _).mono ?_
    rintro e w' ⟨rfl, hw⟩
    subst w'
    go_wp2_with fail
    refine (h2 _).mono ?_
    rintro e w' ⟨rfl, hw⟩
    subst w'
    go_wp2_with fail
    go_ret
    exact ⟨by rw [HE.out]; rfl, by go_grown⟩
set_option maxHeartbeats 400000 in
theorem l10Key_any (b o : Nat) (x y : Int) (w : World) (c0 : w.cell? ⟨b, o, none⟩ = some (.int .i64 x)) (c1 : w.cell? ⟨b, o + 1, none⟩ = some (.int .i64 y)) : Calls Tryz.prog 77 #[.pointer (some ⟨b, o, none⟩)] w fun e w' => e = .returned (.bool (keyB ⟨x, y⟩)) ∧ w' = w := by
  have h1 := fun W => l1InW_any x 0 3 W
  have h2 := fun W => l1InW_any y 1 99 W
  have HE : Hid (keyB ⟨x, y⟩ = (inW x 0 3 && inW y 1 99)) := rfl
  generalize inW x 0 3 = a at h1 HE
  generalize inW y 1 99 = b at h2 HE
  cases a
  · go_enter Tryz.func77, Tryz.ntmps77
    go_wp2_with fail
    refine (h1 _).mono ?_
    rintro e w' ⟨rfl, hw⟩
    subst w'
    go_wp2_with fail
    go_ret
    exact ⟨by rw [HE.out]; rfl, rfl⟩
  · go_enter Tryz.func77, Tryz.ntmps77
    go_wp2_with fail
    refine (h1 _).mono ?_
    rintro e w' ⟨rfl, hw⟩
    subst w'
    go_wp2_with fail
    refine (h2 _).mono ?_
    rintro e w' ⟨rfl, hw⟩
    subst w'
    go_wp2_with fail
    go_ret
    exact ⟨by rw [HE.out]; rfl, rfl⟩
set_option maxHeartbeats 400000 in
theorem l10KeyOf_any (b o : Nat) (x : Chg) (w : World) (h : ChC w b o x) : Calls Tryz.prog 76 #[.pointer (some ⟨b, o, none⟩)] w fun e w' => e = .returned (.agg #[.int .i64 (kT x), .int .i64 (kK x)]) ∧ Below w.heap.size w w' := by
  go_enter Tryz.func76, Tryz.ntmps76
  go_upto_region 1 with (fail)
  generalize hY : World.alloc _ _ = Y
  have gY : Below w.heap.size w Y := by rw [← hY]; go_grown
  have y0 : Y.cell? ⟨w.heap.size, 0, none⟩ = some (.int .i64 0) := by rw [← hY]; simp [go_sem]
  have y1 : Y.cell? ⟨w.heap.size, 1, none⟩ = some (.int .i64 0) := by rw [← hY]; simp [go_sem]
  have f0 : Y.frozen? ⟨w.heap.size, 0, none⟩ = false := by rw [← hY]; simp [go_sem]
  have f1 : Y.frozen? ⟨w.heap.size, 1, none⟩ = false := by rw [← hY]; simp [go_sem]
  clear hY
  have hcon := l6Key_any b o x Y (h.below gY h.lt)
  obtain ⟨t, ht⟩ : ∃ t, kT x = t := ⟨_, rfl⟩
  obtain ⟨k, hk⟩ : ∃ k, kK x = k := ⟨_, rfl⟩
  have HTK : Hid (kT x = t ∧ kK x = k) := ⟨ht, hk⟩
  rw [ht, hk] at hcon
  clear h ht hk
  go_wp2_with fail
  refine hcon.mono ?_
  rintro e w' ⟨rfl, m, rfl⟩
  have gd : Below Y.heap.size Y (Y.drewN m) := below_draws (Below.refl _ _) m
  have hl : w.heap.size < Y.heap.size := World.block_lt_of_cell? Y _ y0
  have y0 := (gd.cell (p := ⟨w.heap.size, 0, none⟩) hl).trans y0
  have y1 := (gd.cell (p := ⟨w.heap.size, 1, none⟩) hl).trans y1
  have f0 := (gd.frozen (p := ⟨w.heap.size, 0, none⟩) hl).trans f0
  have f1 := (gd.frozen (p := ⟨w.heap.size, 1, none⟩) hl).trans f1
  have g := gY.trans (gd.mono gY.size)
  clear gd gY hl hcon
  generalize Y.drewN m = V at y0 y1 f0 f1 g ⊢
  go_wp2_with fail
  refine bodyPost_ret (v := .agg #[.int .i64 t, .int .i64 k]) (by simp [results, Tryz.results76, go_sem, *]) rfl ?_
  exact ⟨by rw [HTK.out.1, HTK.out.2], by go_grown⟩

set_option maxHeartbeats 4000000 in
theorem index_any (a : Option Addr) (l : List K2) (n c : Nat) (x y : Int) (w : World) (hn : l.length = n) (hm : n ≤ 9223372036854775807) (hr : Rs kyE 2 w a l) :
    Calls Tryz.prog 130 #[.slice a n c, .agg #[.int .i64 x, .int .i64 y]] w fun e w' => (∃ r : Int, e = .returned (.int .i64 r) ∧ decide (0 ≤ r) = hasK l ⟨x, y⟩) ∧ Below w.heap.size w w' := by
  have HN : Hid (l.length = n) := hn
  have HR : Hid (Rs kyE 2 w a l) := hr
  clear hn hr
  go_enter Tryz.func130, Tryz.ntmps130
  go_upto_region 1 with (fail)
  generalize hY : World.alloc _ _ = Y
  have gY : Below w.heap.size w Y := by rw [← hY]; go_grown
  have k0 : Y.cell? ⟨w.heap.size, 0, none⟩ = some (.int .i64 x) := by rw [← hY]; simp [go_sem]
  have k1 : Y.cell? ⟨w.heap.size, 1, none⟩ = some (.int .i64 y) := by rw [← hY]; simp [go_sem]
  clear hY
  obtain ⟨kb, hkb⟩ : ∃ kb, w.heap.size = kb := ⟨_, rfl⟩
  rw [hkb] at k0 k1
  simp only [hkb]
  have HKB : Hid (w.heap.size = kb) := hkb
  clear hkb
  have lk : kb < Y.heap.size := World.block_lt_of_cell? Y _ k0
  have HK : Hid (∀ V, Below Y.heap.size Y V → V.cell? ⟨kb, 0, none⟩ = some (.int .i64 x) ∧ V.cell? ⟨kb, 1, none⟩ = some (.int .i64 y)) := fun V hV => ⟨(hV.cell (p := ⟨kb, 0, none⟩) lk).trans k0, (hV.cell (p := ⟨kb, 1, none⟩) lk).trans k1⟩
  clear k0 k1
  go_wp2_with fail
  go_loopw [8] (fun i wr => ∃ j : Nat, j ≤ n ∧ i = .int .i64 j ∧ Hid (∀ e ∈ l.take j, kEq e ⟨x, y⟩ = false) ∧ Below Y.heap.size Y wr) (fun i _ => n - (intOf i).toNat)
  case atStart => exact ⟨0, Nat.zero_le _, rfl, by intro e he; simp at he, Below.refl _ _⟩
  case round =>
    obtain ⟨j, hj, rfl, hA, g⟩ := hrel
    by_cases hlt : j < n
    · have hjn : (j : Int) < (n : Int) := by omega
      obtain ⟨e, he⟩ : ∃ e, l[j]? = some e := ⟨_, List.getElem?_eq_getElem (by rw [HN.out]; exact hlt)⟩
      obtain ⟨xb, xo, rfl, x0, x1⟩ := (HR.out.below (gY.trans (g.mono gY.size)) (Nat.le_refl _)).key he
      obtain ⟨k0, k1⟩ := HK.out wr g
      have lx := World.block_lt_of_cell? wr _ x0
      have lk := World.block_lt_of_cell? wr _ k0
      obtain ⟨p, q⟩ := e
      dsimp only at x0 x1
      obtain ⟨f, hf⟩ : ∃ f, kEq ⟨p, q⟩ ⟨x, y⟩ = f := ⟨_, rfl⟩
      have HF : Hid (kEq ⟨x, y⟩ ⟨p, q⟩ = f) := by show _ = _; rw [kEq_symm]; exact hf
      have HY1 : Hid (f = true → hasK l ⟨x, y⟩ = true) := fun h => hasK_yes he (by rw [hf]; exact h)
      have HY0 : Hid (f = false → ∀ e ∈ l.take (j + 1), kEq e ⟨x, y⟩ = false) := fun h => take_all hA.out he (by rw [hf]; exact h)
      clear he hf hA
      go_upto_region 4 with (fail)
      refine wp_region_held_drew (S := fun V => Below wr.heap.size wr V) (by kernel_rfl) (Below.refl _ wr).drew (fun hHeld => ?_)
      generalize wr.drew = D0 at hHeld ⊢
      refine wpAnyH_take (i := 0) (v := ?v1) rfl (by kernel_rfl) (by kernel_rfl) (by kernel_rfl) (fun _ _ _ h => h) (Or.inl ⟨by kernel_rfl, ?h1⟩) hHeld ?_
      case h1 => intro u hSw; (have k0 := (hSw.cell (p := ⟨kb, 0, none⟩) lk).trans k0); (have k1 := (hSw.cell (p := ⟨kb, 1, none⟩) lk).trans k1); clear hSw; go_simp; try with_reducible rfl
      try simp only [List.getElem_toArray]
      try simp only [List.getElem_cons_succ]
      try simp only [List.getElem_cons_zero]
      try simp only [Act.put]
      try simp only [List.setIfInBounds_toArray]
      try simp only [List.set]
      refine wpAnyH_take (i := 1) (v := ?v2) rfl (by kernel_rfl) (by kernel_rfl) (by kernel_rfl) (fun _ _ _ h => h) (Or.inl ⟨by kernel_rfl, ?h2⟩) hHeld ?_
      case h2 => intro u hSw; clear hSw; go_simp; try with_reducible rfl
      try simp only [List.getElem_toArray]
      try simp only [List.getElem_cons_succ]
      try simp only [List.getElem_cons_zero]
      try simp only [Act.put]
      try simp only [List.setIfInBounds_toArray]
      try simp only [List.set]
      refine wpAnyH_take (i := 2) (v := ?v3) rfl (by kernel_rfl) (by kernel_rfl) (by kernel_rfl) (fun _ _ _ h => h) (Or.inl ⟨by kernel_rfl, ?h3⟩) hHeld ?_
      case h3 => intro u hSw; clear hSw; go_simp; try with_reducible rfl
      try simp only [List.getElem_toArray]
      try simp only [List.getElem_cons_succ]
      try simp only [List.getElem_cons_zero]
      try simp only [Act.put]
      try simp only [List.setIfInBounds_toArray]
      try simp only [List.set]
      refine wpAnyH_take (i := 3) (v := ?v4) rfl (by kernel_rfl) (by kernel_rfl) (by kernel_rfl) (fun _ _ _ h => h) (Or.inl ⟨by kernel_rfl, ?h4⟩) hHeld ?_
      case h4 => intro u hSw; clear hSw; go_simp; try with_reducible rfl
      try simp only [List.getElem_toArray]
      try simp only [List.getElem_cons_succ]
      try simp only [List.getElem_cons_zero]
      try simp only [Act.put]
      try simp only [List.setIfInBounds_toArray]
      try simp only [List.set]
      refine wpAnyH_take (i := 4) (v := ?v5) rfl (by kernel_rfl) (by kernel_rfl) (by kernel_rfl) (fun _ _ _ h => h) (Or.inl ⟨by kernel_rfl, ?h5⟩) hHeld ?_
      case h5 => intro u hSw; (have x0 := (hSw.cell (p := ⟨xb, xo + j * 2, none⟩) lx).trans x0); (have x1 := (hSw.cell (p := ⟨xb, xo + j * 2 + 1, none⟩) lx).trans x1); clear hSw; go_simp; try with_reducible rfl
      try simp only [List.getElem_toArray]
      try simp only [List.getElem_cons_succ]
      try simp only [List.getElem_cons_zero]
      try simp only [Act.put]
      try simp only [List.setIfInBounds_toArray]
      try simp only [List.set]
      refine wpAnyH_take (i := 5) (v := .bool f) rfl (by kernel_rfl) (by kernel_rfl) (by kernel_rfl) (fun _ _ _ h => h) (Or.inl ⟨by kernel_rfl, ?hq1⟩) hHeld ?_
      case hq1 =>
        intro u hSw
        clear hSw hHeld
        go_simp
        rw [← HF.out]
        repeat' split
        all_goals simp [kEq, *]
      try simp only [List.getElem_toArray]
      try simp only [List.getElem_cons_succ]
      try simp only [List.getElem_cons_zero]
      try simp only [Act.put]
      try simp only [List.setIfInBounds_toArray]
      try simp only [List.set]
      refine wpAnyH_done (by kernel_rfl) ?_ _
      have g := g.trans (hHeld.mono g.size)
      clear hHeld x0 x1 k0 k1 lx lk HF
      cases f
      · have HA2 : Hid (∀ e ∈ l.take (j + 1), kEq e ⟨x, y⟩ = false) := HY0.out rfl
        clear HY0 HY1
        go_wp2_with fail
        go_roundw
        case rel => exact ⟨j + 1, by omega, by go_num, HA2, g⟩
        case measure => simp [intOf]; omega
      · have HA2 : Hid (hasK l ⟨x, y⟩ = true) := HY1.out rfl
        clear HY0 HY1
        go_wp2_with fail
        go_ret
        exact ⟨⟨j, rfl, by rw [HA2.out]; simp⟩, gY.trans (g.mono gY.size)⟩
    · have e : j = n := by omega
      subst e
      have HA2 : Hid (hasK l ⟨x, y⟩ = false) := hasK_no (take_whole HN.out hA.out)
      clear hA
      go_wp2_with fail
      go_ret
      exact ⟨⟨-1, rfl, by rw [HA2.out]; rfl⟩, gY.trans (g.mono gY.size)⟩

set_option maxHeartbeats 1000000 in
theorem contains_any (a : Option Addr) (l : List K2) (n c : Nat) (x y : Int) (w : World) (hn : l.length = n) (hm : n ≤ 9223372036854775807) (hr : Rs kyE 2 w a l) :
    Calls Tryz.prog 123 #[.slice a n c, .agg #[.int .i64 x, .int .i64 y]] w fun e w' => e = .returned (.bool (hasK l ⟨x, y⟩)) ∧ Below w.heap.size w w' := by
  have HC : Hid (∀ W, Below w.heap.size w W → Calls Tryz.prog 130 #[.slice a n c, .agg #[.int .i64 x, .int .i64 y]] W fun e w' => (∃ r : Int, e = .returned (.int .i64 r) ∧ decide (0 ≤ r) = hasK l ⟨x, y⟩) ∧ Below W.heap.size W w') := fun W hW => index_any a l n c x y W hn hm (hr.below hW (Nat.le_refl _))
  generalize hasK l ⟨x, y⟩ = f at HC ⊢
  clear hn hr
  go_enter Tryz.func123, Tryz.ntmps123
  go_upto_region 1 with (fail)
  generalize hY : World.alloc _ _ = Y
  have gY : Below w.heap.size w Y := by rw [← hY]; go_grown
  have k0 : Y.cell? ⟨w.heap.size, 0, none⟩ = some (.int .i64 x) := by rw [← hY]; simp [go_sem]
  have k1 : Y.cell? ⟨w.heap.size, 1, none⟩ = some (.int .i64 y) := by rw [← hY]; simp [go_sem]
  clear hY
  go_wp2_with fail
  refine (HC.out Y gY).mono ?_
  rintro e w1 ⟨⟨r, rfl, hd⟩, g1⟩
  have g := gY.trans (g1.mono gY.size)
  subst hd
  clear k0 k1 g1 gY
  go_wp2_with fail
  go_ret
  exact ⟨rfl, g⟩

set_option maxHeartbeats 1000000 in
theorem has_any (a : Option Addr) (l : List K2) (n c : Nat) (x y : Int) (w : World) (hn : l.length = n) (hm : n ≤ 9223372036854775807) (hr : Rs kyE 2 w a l) :
    Calls Tryz.prog 112 #[.slice a n c, .agg #[.int .i64 x, .int .i64 y]] w fun e w' => e = .returned (.bool (hasK l ⟨x, y⟩)) ∧ Below w.heap.size w w' := by
  have HC : Hid (∀ W, Below w.heap.size w W → Calls Tryz.prog 123 #[.slice a n c, .agg #[.int .i64 x, .int .i64 y]] W fun e w' => e = .returned (.bool (hasK l ⟨x, y⟩)) ∧ Below W.heap.size W w') := fun W hW => contains_any a l n c x y W hn hm (hr.below hW (Nat.le_refl _))
  generalize hasK l ⟨x, y⟩ = f at HC ⊢
  clear hn hr
  go_enter Tryz.func112, Tryz.ntmps112
  go_upto_region 1 with (fail)
  generalize hY : World.alloc _ _ = Y
  have gY : Below w.heap.size w Y := by rw [← hY]; go_grown
  have k0 : Y.cell? ⟨w.heap.size, 0, none⟩ = some (.int .i64 x) := by rw [← hY]; simp [go_sem]
  have k1 : Y.cell? ⟨w.heap.size, 1, none⟩ = some (.int .i64 y) := by rw [← hY]; simp [go_sem]
  clear hY
  go_wp2_with fail
  refine (HC.out Y gY).mono ?_
  rintro e w1 ⟨rfl, g1⟩
  have g := gY.trans (g1.mono gY.size)
  clear k0 k1 g1 gY
  go_wp2_with fail
  go_ret
  exact ⟨rfl, g⟩

set_option maxHeartbeats 4000000 in
theorem l10Locks_any (tb to : Nat) (a : Option Addr) (l : List K2) (n c : Nat) (x y : Int) (w : World) (hn : l.length = n) (hm : n ≤ 9223372036854775807) (hr : Rs kyE 2 w a l) (ht : w.cell? ⟨tb, to + 3, none⟩ = some (.slice a n c)) :
    Calls Tryz.prog 75 #[.pointer (some ⟨tb, to, none⟩), .agg #[.int .i64 x, .int .i64 y]] w fun e w' => e = .returned (.bool (hasK l ⟨x, y⟩)) ∧ Below w.heap.size w w' := by
  have HN : Hid (l.length = n) := hn
  have HR : Hid (Rs kyE 2 w a l) := hr
  have lt := World.block_lt_of_cell? w _ ht
  have HT : Hid (∀ V, Below w.heap.size w V → V.cell? ⟨tb, to + 3, none⟩ = some (.slice a n c)) := fun V hV => (hV.cell (p := ⟨tb, to + 3, none⟩) lt).trans ht
  clear hn hr ht lt
  go_enter Tryz.func75, Tryz.ntmps75
  go_upto_region 1 with (fail)
  generalize hY : World.alloc _ _ = Y
  have gY : Below w.heap.size w Y := by rw [← hY]; go_grown
  have k0 : Y.cell? ⟨w.heap.size, 0, none⟩ = some (.int .i64 x) := by rw [← hY]; simp [go_sem]
  have k1 : Y.cell? ⟨w.heap.size, 1, none⟩ = some (.int .i64 y) := by rw [← hY]; simp [go_sem]
  clear hY
  obtain ⟨kb, hkb⟩ : ∃ kb, w.heap.size = kb := ⟨_, rfl⟩
  rw [hkb] at k0 k1
  simp only [hkb]
  have HKB : Hid (w.heap.size = kb) := hkb
  clear hkb
  have lk : kb < Y.heap.size := World.block_lt_of_cell? Y _ k0
  have HK : Hid (∀ V, Below Y.heap.size Y V → V.cell? ⟨kb, 0, none⟩ = some (.int .i64 x) ∧ V.cell? ⟨kb, 1, none⟩ = some (.int .i64 y)) := fun V hV => ⟨(hV.cell (p := ⟨kb, 0, none⟩) lk).trans k0, (hV.cell (p := ⟨kb, 1, none⟩) lk).trans k1⟩
  clear k0 k1
  go_wp2_with fail
  go_loopw [5] (fun i wr => ∃ j : Nat, j ≤ n ∧ i = .int .i64 j ∧ Hid (∀ e ∈ l.take j, kEq e ⟨x, y⟩ = false) ∧ Below Y.heap.size Y wr) (fun i _ => n - (intOf i).toNat)
  case atStart => exact ⟨0, Nat.zero_le _, rfl, by intro e he; simp at he, Below.refl _ _⟩
  case round =>
    obtain ⟨j, hj, rfl, hA, g⟩ := hrel
    have t0 := HT.out wr (gY.trans (g.mono gY.size))
    by_cases hlt : j < n
    · have hjn : (j : Int) < (n : Int) := by omega
      obtain ⟨e, he⟩ : ∃ e, l[j]? = some e := ⟨_, List.getElem?_eq_getElem (by rw [HN.out]; exact hlt)⟩
      obtain ⟨xb, xo, rfl, x0, x1⟩ := (HR.out.below (gY.trans (g.mono gY.size)) (Nat.le_refl _)).key he
      obtain ⟨k0, k1⟩ := HK.out wr g
      have lx := World.block_lt_of_cell? wr _ x0
      have lk := World.block_lt_of_cell? wr _ k0
      have lt := World.block_lt_of_cell? wr _ t0
      obtain ⟨p, q⟩ := e
      dsimp only at x0 x1
      obtain ⟨f, hf⟩ : ∃ f, kEq ⟨p, q⟩ ⟨x, y⟩ = f := ⟨_, rfl⟩
      have HF : Hid (kEq ⟨p, q⟩ ⟨x, y⟩ = f) := hf
      have HY1 : Hid (f = true → hasK l ⟨x, y⟩ = true) := fun h => hasK_yes he (by rw [hf]; exact h)
      have HY0 : Hid (f = false → ∀ e ∈ l.take (j + 1), kEq e ⟨x, y⟩ = false) := fun h => take_all hA.out he (by rw [hf]; exact h)
      clear he hf hA
      go_upto_region 4 with (fail)
      refine wp_region_held_drew (S := fun V => Below wr.heap.size wr V) (by kernel_rfl) (Below.refl _ wr).drew (fun hHeld => ?_)
      generalize wr.drew = D0 at hHeld ⊢
      refine wpAnyH_take (i := 0) (v := ?v6) rfl (by kernel_rfl) (by kernel_rfl) (by kernel_rfl) (fun _ _ _ h => h) (Or.inl ⟨by kernel_rfl, ?h6⟩) hHeld ?_
      case h6 => intro u hSw; clear hSw; go_simp; try with_reducible rfl
      try simp only [List.getElem_toArray]
      try simp only [List.getElem_cons_succ]
      try simp only [List.getElem_cons_zero]
      try simp only [Act.put]
      try simp only [List.setIfInBounds_toArray]
      try simp only [List.set]
      refine wpAnyH_take (i := 1) (v := ?v7) rfl (by kernel_rfl) (by kernel_rfl) (by kernel_rfl) (fun _ _ _ h => h) (Or.inl ⟨by kernel_rfl, ?h7⟩) hHeld ?_
      case h7 => intro u hSw; clear hSw; go_simp; try with_reducible rfl
      try simp only [List.getElem_toArray]
      try simp only [List.getElem_cons_succ]
      try simp only [List.getElem_cons_zero]
      try simp only [Act.put]
      try simp only [List.setIfInBounds_toArray]
      try simp only [List.set]
      refine wpAnyH_take (i := 2) (v := ?v8) rfl (by kernel_rfl) (by kernel_rfl) (by kernel_rfl) (fun _ _ _ h => h) (Or.inl ⟨by kernel_rfl, ?h8⟩) hHeld ?_
      case h8 => intro u hSw; clear hSw; go_simp; try with_reducible rfl
      try simp only [List.getElem_toArray]
      try simp only [List.getElem_cons_succ]
      try simp only [List.getElem_cons_zero]
      try simp only [Act.put]
      try simp only [List.setIfInBounds_toArray]
      try simp only [List.set]
      refine wpAnyH_take (i := 3) (v := ?v9) rfl (by kernel_rfl) (by kernel_rfl) (by kernel_rfl) (fun _ _ _ h => h) (Or.inl ⟨by kernel_rfl, ?h9⟩) hHeld ?_
      case h9 => intro u hSw; (have t0 := (hSw.cell (p := ⟨tb, to + 3, none⟩) lt).trans t0); clear hSw; go_simp; try with_reducible rfl
      try simp only [List.getElem_toArray]
      try simp only [List.getElem_cons_succ]
      try simp only [List.getElem_cons_zero]
      try simp only [Act.put]
      try simp only [List.setIfInBounds_toArray]
      try simp only [List.set]
      refine wpAnyH_take (i := 4) (v := ?v10) rfl (by kernel_rfl) (by kernel_rfl) (by kernel_rfl) (fun _ _ _ h => h) (Or.inl ⟨by kernel_rfl, ?h10⟩) hHeld ?_
      case h10 => intro u hSw; clear hSw; go_simp; try with_reducible rfl
      try simp only [List.getElem_toArray]
      try simp only [List.getElem_cons_succ]
      try simp only [List.getElem_cons_zero]
      try simp only [Act.put]
      try simp only [List.setIfInBounds_toArray]
      try simp only [List.set]
      refine wpAnyH_take (i := 5) (v := ?v11) rfl (by kernel_rfl) (by kernel_rfl) (by kernel_rfl) (fun _ _ _ h => h) (Or.inl ⟨by kernel_rfl, ?h11⟩) hHeld ?_
      case h11 => intro u hSw; clear hSw; go_simp; try with_reducible rfl
      try simp only [List.getElem_toArray]
      try simp only [List.getElem_cons_succ]
      try simp only [List.getElem_cons_zero]
      try simp only [Act.put]
      try simp only [List.setIfInBounds_toArray]
      try simp only [List.set]
      refine wpAnyH_take (i := 6) (v := ?v12) rfl (by kernel_rfl) (by kernel_rfl) (by kernel_rfl) (fun _ _ _ h => h) (Or.inl ⟨by kernel_rfl, ?h12⟩) hHeld ?_
      case h12 => intro u hSw; (have x0 := (hSw.cell (p := ⟨xb, xo + j * 2, none⟩) lx).trans x0); (have x1 := (hSw.cell (p := ⟨xb, xo + j * 2 + 1, none⟩) lx).trans x1); clear hSw; go_simp; try with_reducible rfl
      try simp only [List.getElem_toArray]
      try simp only [List.getElem_cons_succ]
      try simp only [List.getElem_cons_zero]
      try simp only [Act.put]
      try simp only [List.setIfInBounds_toArray]
      try simp only [List.set]
      refine wpAnyH_take (i := 7) (v := ?v13) rfl (by kernel_rfl) (by kernel_rfl) (by kernel_rfl) (fun _ _ _ h => h) (Or.inl ⟨by kernel_rfl, ?h13⟩) hHeld ?_
      case h13 => intro u hSw; (have k0 := (hSw.cell (p := ⟨kb, 0, none⟩) lk).trans k0); (have k1 := (hSw.cell (p := ⟨kb, 1, none⟩) lk).trans k1); clear hSw; go_simp; try with_reducible rfl
      try simp only [List.getElem_toArray]
      try simp only [List.getElem_cons_succ]
      try simp only [List.getElem_cons_zero]
      try simp only [Act.put]
      try simp only [List.setIfInBounds_toArray]
      try simp only [List.set]
      refine wpAnyH_take (i := 8) (v := .bool f) rfl (by kernel_rfl) (by kernel_rfl) (by kernel_rfl) (fun _ _ _ h => h) (Or.inl ⟨by kernel_rfl, ?hq2⟩) hHeld ?_
      case hq2 =>
        intro u hSw
        clear hSw hHeld
        go_simp
        rw [← HF.out]
        repeat' split
        all_goals simp [kEq, *]
      try simp only [List.getElem_toArray]
      try simp only [List.getElem_cons_succ]
      try simp only [List.getElem_cons_zero]
      try simp only [Act.put]
      try simp only [List.setIfInBounds_toArray]
      try simp only [List.set]
      refine wpAnyH_done (by kernel_rfl) ?_ _
      have g := g.trans (hHeld.mono g.size)
      clear hHeld x0 x1 k0 k1 lx lk HF t0 lt
      cases f
      · have HA2 : Hid (∀ e ∈ l.take (j + 1), kEq e ⟨x, y⟩ = false) := HY0.out rfl
        clear HY0 HY1
        go_wp2_with fail
        go_roundw
        case rel => exact ⟨j + 1, by omega, by go_num, HA2, g⟩
        case measure => simp [intOf]; omega
      · have HA2 : Hid (hasK l ⟨x, y⟩ = true) := HY1.out rfl
        clear HY0 HY1
        go_wp2_with fail
        go_ret
        exact ⟨by rw [HA2.out]; rfl, gY.trans (g.mono gY.size)⟩
    · have e : j = n := by omega
      subst e
      have HA2 : Hid (hasK l ⟨x, y⟩ = false) := hasK_no (take_whole HN.out hA.out)
      clear hA
      go_wp2_with fail
      go_ret
      exact ⟨by rw [HA2.out]; rfl, gY.trans (g.mono gY.size)⟩

end Go.Proofs.YtpjlpnaamkbicaaGreatDoor
