/-
  The program's AppendLog.
-/
import Derived.Test.YtcjkjenebnodbaaRLgq

namespace Go.Proofs.Ytcjkjenebnodbaa
open Go.RowKit
set_option linter.unusedVariables false

/-- The code of AppendLog: of the log xs, ys and a record whose code is r and whose bytes are bs. -/
def alQ (xs ys : List Int) (r : Int) (bs : List Int) : Int := if lfQ xs ys = 0 then (if r = 0 then (if 16000 < xs.length + ys.length + bs.length then 9 else 0) else r) else lfQ xs ys
def alS (xs ys : List Int) (r : Int) (bs : List Int) : List Int := if alQ xs ys r bs = 0 then xs else []
def alL (xs ys : List Int) (r : Int) (bs : List Int) : List Int := if alQ xs ys r bs = 0 then ys ++ bs else []

theorem pkB_small {k tx pg : Int} {n : Nat} {P : Nat → Int} {Z : Nat → List Int} (hb : ∀ i, i < n → ∀ z ∈ Z i, 0 ≤ z ∧ z ≤ 255) : (pkB k tx pg n P Z).length ≤ 255 := by
  unfold pkB
  split
  · rename_i h
    have := (rec_runs h hb).tot
    rw [packB_len]
    exact this
  · exact Nat.zero_le _

set_option maxRecDepth 10000 in
set_option maxHeartbeats 4000000 in
theorem implAppendLog_any (x y : Option Addr) (xs ys : List Int) (c d : Nat) (k tx pg : Int) (a : Option Addr) (l e' : Nat) (P : Nat → Int) (A : Nat → Option Addr) (C : Nat → Nat) (Z : Nat → List Int) (w : World) (hn1 : xs.length ≤ 1048576) (hm1 : ys.length ≤ 1048576) (hc : xs.length ≤ c) (hd : ys.length ≤ d) (hcm : c ≤ 9223372036854775807) (hdm : d ≤ 9223372036854775807) (hx : Reads w x xs) (hy : Reads w y ys) (hxb : ∀ z ∈ xs, 0 ≤ z ∧ z ≤ 255) (hyb : ∀ z ∈ ys, 0 ≤ z ∧ z ≤ 255) (hxn : x = none → c = 0)
    (hl : l ≤ 1048576) (hz : Hid (∀ i, i < l → (Z i).length ≤ 1048576)) (hzb : Hid (∀ i, i < l → ∀ z ∈ Z i, 0 ≤ z ∧ z ≤ 255)) (hr : RunsRead w a l P A C Z) :
    Calls Try.prog 21 #[.agg #[.slice x xs.length c, .slice y ys.length d], .agg #[.int .i64 k, .int .i64 tx, .int .i64 pg, .slice a l e']] w fun e w' => LgPost w (alQ xs ys (recQ k tx pg l P Z) (pkB k tx pg l P Z)) (alS xs ys (recQ k tx pg l P Z) (pkB k tx pg l P Z)) (alL xs ys (recQ k tx pg l P Z) (pkB k tx pg l P Z)) e w' := by
  have HL : Hid (∀ X, Below w.heap.size w X → Calls Try.prog 28 #[.agg #[.slice x xs.length c, .slice y ys.length d]] X fun e w' => e = .returned (.int .i64 (lfQ xs ys)) ∧ Below X.heap.size X w') := fun X g => implLogFault_any x y xs ys c d X hn1 hm1 hc hd hcm hdm (hx.below g (Nat.le_refl _)) (hy.below g (Nat.le_refl _)) hxb hyb
  have HP : Hid (∀ X, Below w.heap.size w X → Calls Try.prog 36 #[.agg #[.int .i64 k, .int .i64 tx, .int .i64 pg, .slice a l e']] X fun e w' => ∃ a' d', e = .returned (.agg #[.int .i64 (recQ k tx pg l P Z), .slice a' (pkB k tx pg l P Z).length d']) ∧ (pkB k tx pg l P Z).length ≤ d' ∧ Below X.heap.size X w' ∧ BytesIn X.heap.size w'.heap.size w' a' (pkB k tx pg l P Z)) := fun X g => implPackRecord_any k tx pg a l e' P A C Z X hl hz hzb (hr.below g (Nat.le_refl _))
  obtain ⟨us, hus⟩ : ∃ us, us = pkB k tx pg l P Z := ⟨_, rfl⟩
  have hul : us.length ≤ 255 := by rw [hus]; exact pkB_small hzb.out
  rw [← hus] at HP ⊢
  have HCl : Hid (∀ X, Below w.heap.size w X → Calls Try.prog 77 #[.slice x xs.length c] X fun e w' => ∃ v, e = .returned v ∧ Below X.heap.size X w' ∧ Gb X.heap.size w' v xs) := fun X g => clone_gen x xs _ c X rfl (by omega) (hx.below g (Nat.le_refl _)) hxn
  have HC : Hid (∀ X b pa da, Below w.heap.size w X → Reads X pa us → TwoAt X b y ys.length d pa us.length da → Calls Try.prog 78 #[.slice (some ⟨b, 0, none⟩) 2 2] X fun e w' => ∃ v, e = .returned v ∧ Below X.heap.size X w' ∧ Gb X.heap.size w' v (ys ++ us)) := fun X b pa da g h r => concat_two b y pa ys us _ d _ da X rfl rfl (by omega) (by omega) (hy.below g (Nat.le_refl _)) h r
  have HQ : Hid (∀ r, alQ xs ys r us = if lfQ xs ys = 0 then (if r = 0 then (if 16000 < xs.length + ys.length + us.length then 9 else 0) else r) else lfQ xs ys) := fun _ => rfl
  clear hx hy hxb hyb hc hd hus hr hxn hz hzb
  generalize recQ k tx pg l P Z = rq at HP ⊢
  generalize lfQ xs ys = q at HL HQ
  obtain ⟨n, hnn⟩ : ∃ n, xs.length = n := ⟨_, rfl⟩
  obtain ⟨m, hmm⟩ : ∃ m, ys.length = m := ⟨_, rfl⟩
  obtain ⟨j, hjj⟩ : ∃ j, us.length = j := ⟨_, rfl⟩
  rw [hnn] at HL HCl HQ hn1 ⊢
  rw [hmm] at HL HC HQ hm1 ⊢
  rw [hjj] at HP HC HQ hul
  have HN : Hid (xs.length = n) := hnn
  have HM : Hid (ys.length = m) := hmm
  have HJ : Hid (us.length = j) := hjj
  clear hnn hmm hjj
  go_enter Try.func21, Try.ntmps21
  go_upto_region 1 with (fail)
  generalize hY : World.alloc _ _ = Y
  have hA : A3 w (w.heap.size + 2) Y := by rw [← hY]; exact ⟨by simp [go_sem], by simp [go_sem], by simp [go_sem], by simp [go_sem], by simp [go_sem], by simp [go_sem], by go_grown⟩
  have r : LgAt Y w.heap.size x n c y m d := by rw [← hY]; exact ⟨by simp [go_sem], by simp [go_sem]⟩
  have rc : RcAt Y (w.heap.size + 1) k tx pg a l e' := by rw [← hY]; exact ⟨by simp [go_sem], by simp [go_sem], by simp [go_sem], by simp [go_sem]⟩
  clear hY
  obtain ⟨r0, r1⟩ := r
  have r : LgAt Y w.heap.size x n c y m d := ⟨r0, r1⟩
  go_wp2_with fail
  refine (HL.out _ hA.g).mono ?_
  rintro e w1 ⟨rfl, g1⟩
  have hA := hA.up g1
  have r := r.up g1
  have rc := rc.up g1
  clear g1 r0 r1
  by_cases hq : q = 0
  · subst hq
    obtain ⟨c0, c1, c2, c3⟩ := rc
    go_wp2_with fail
    refine (HP.out _ hA.g).mono ?_
    rintro e w2 ⟨pa, da, rfl, hda, g2, y2⟩
    have hlt := hA.lt
    have hg2s := g2.size
    have hA := hA.up g2
    have r := r.up g2
    have HBy : Hid (BytesIn (w.heap.size + 3) w2.heap.size w2 pa us) := y2.mono (by omega) (Nat.le_refl _)
    clear g2 y2 c0 c1 c2 c3
    go_upto_region 5 with (fail)
    generalize hY2 : World.alloc w2 _ = Y2
    have gY : Below w2.heap.size w2 Y2 := by rw [← hY2]; go_grown
    have p0 : Y2.cell? ⟨w2.heap.size, 0, none⟩ = some (.int .i64 rq) := by rw [← hY2]; simp [go_sem]
    have p1 : Y2.cell? ⟨w2.heap.size, 1, none⟩ = some (.slice pa j da) := by rw [← hY2]; simp [go_sem]
    have hA := hA.up gY
    have r := r.up gY
    have HBy : Hid (BytesIn (w.heap.size + 3) Y2.heap.size Y2 pa us) := (HBy.out.below gY).mono (Nat.le_refl _) gY.size
    have hbx : w2.heap.size < Y2.heap.size := World.block_lt_of_cell? Y2 _ p0
    have hbxl : w.heap.size + 3 ≤ w2.heap.size := by omega
    clear hY2 gY
    generalize w2.heap.size = bx at p0 p1 hbx hbxl ⊢
    by_cases hrq : rq = 0
    · subst hrq
      have hwr : IntKind.i64.wrap ((n : Int) + (m : Int) + (j : Int)) = (n : Int) + (m : Int) + (j : Int) := by rw [IntKind.wrap_i64]; omega
      go_upto_region 7 with (fail)
      have gD : Below Y2.heap.size Y2 Y2.drew := (Below.refl _ _).drew
      refine wp_region_held_drew (S := fun V => LgAt V w.heap.size x n c y m d ∧ V.cell? ⟨bx, 0, none⟩ = some (.int .i64 0) ∧ V.cell? ⟨bx, 1, none⟩ = some (.slice pa j da)) (by kernel_rfl) ⟨r.up gD, cellUp gD p0, cellUp gD p1⟩ (fun hHeld => ?_)
      have hA := hA.up gD
      have HBy : Hid (BytesIn (w.heap.size + 3) Y2.drew.heap.size Y2.drew pa us) := (HBy.out.below gD).mono (Nat.le_refl _) gD.size
      generalize Y2.drew = D at hHeld hA HBy ⊢
      clear r p0 p1 gD hbx
      refine wpAnyH_take (i := 0) (v := ?v1) rfl (by kernel_rfl) (by kernel_rfl) (by kernel_rfl) (fun _ _ _ h => h) (Or.inl ⟨by kernel_rfl, ?h1⟩) hHeld ?_
      case h1 => intro u hSw; obtain ⟨⟨q0, q1⟩, q2, q3⟩ := hSw; go_simp; try with_reducible rfl
      try simp only [List.getElem_toArray]
      try simp only [List.getElem_cons_succ]
      try simp only [List.getElem_cons_zero]
      try simp only [Act.put]
      try simp only [List.setIfInBounds_toArray]
      try simp only [List.set]
      refine wpAnyH_take (i := 2) (v := ?v2) rfl (by kernel_rfl) (by kernel_rfl) (by kernel_rfl) (fun _ _ _ h => h) (Or.inl ⟨by kernel_rfl, ?h2⟩) hHeld ?_
      case h2 => intro u hSw; (try dsimp only at hSw); go_simp; try with_reducible rfl
      try simp only [List.getElem_toArray]
      try simp only [List.getElem_cons_succ]
      try simp only [List.getElem_cons_zero]
      try simp only [Act.put]
      try simp only [List.setIfInBounds_toArray]
      try simp only [List.set]
      refine wpAnyH_take (i := 3) (v := ?v3) rfl (by kernel_rfl) (by kernel_rfl) (by kernel_rfl) (fun _ _ _ h => h) (Or.inl ⟨by kernel_rfl, ?h3⟩) hHeld ?_
      case h3 => intro u hSw; obtain ⟨⟨q0, q1⟩, q2, q3⟩ := hSw; go_simp; try with_reducible rfl
      try simp only [List.getElem_toArray]
      try simp only [List.getElem_cons_succ]
      try simp only [List.getElem_cons_zero]
      try simp only [Act.put]
      try simp only [List.setIfInBounds_toArray]
      try simp only [List.set]
      refine wpAnyH_take (i := 4) (v := ?v4) rfl (by kernel_rfl) (by kernel_rfl) (by kernel_rfl) (fun _ _ _ h => h) (Or.inl ⟨by kernel_rfl, ?h4⟩) hHeld ?_
      case h4 => intro u hSw; (try dsimp only at hSw); go_simp; try with_reducible rfl
      try simp only [List.getElem_toArray]
      try simp only [List.getElem_cons_succ]
      try simp only [List.getElem_cons_zero]
      try simp only [Act.put]
      try simp only [List.setIfInBounds_toArray]
      try simp only [List.set]
      refine wpAnyH_ready (rs := [1]) (by kernel_rfl) (by simp) ?_
      refine AllReadyH.cons rfl (fun K hK => ?_) AllReadyH.nil
      go_simp
      go_wp2_with (go_at_call 76; refine (length_any x y n c m d _ hn1 hm1).mono ?_; rintro e w3 ⟨rfl, g3⟩)
      refine hK.out _ _ (⟨hHeld.1.up g3, cellUp g3 hHeld.2.1, cellUp g3 hHeld.2.2⟩) (fun hHeld => ?_)
      clear hK K
      have hA := hA.up g3
      have HBy : Hid (BytesIn (w.heap.size + 3) w3.heap.size w3 pa us) := (HBy.out.below g3).mono (Nat.le_refl _) g3.size
      clear g3
      try simp only [Act.put]
      try simp only [List.setIfInBounds_toArray]
      try simp only [List.set]
      refine wpAnyH_take (i := 5) (v := ?v5) rfl (by kernel_rfl) (by kernel_rfl) (by kernel_rfl) (fun _ _ _ h => h) (Or.inl ⟨by kernel_rfl, ?h5⟩) hHeld ?_
      case h5 => intro u hSw; (try dsimp only at hSw); go_simp; try with_reducible rfl
      try simp only [List.getElem_toArray]
      try simp only [List.getElem_cons_succ]
      try simp only [List.getElem_cons_zero]
      try simp only [Act.put]
      try simp only [List.setIfInBounds_toArray]
      try simp only [List.set]
      refine wpAnyH_take (i := 6) (v := ?v6) rfl (by kernel_rfl) (by kernel_rfl) (by kernel_rfl) (fun _ _ _ h => h) (Or.inl ⟨by kernel_rfl, ?h6⟩) hHeld ?_
      case h6 => intro u hSw; (try dsimp only at hSw); go_simp; try with_reducible rfl
      try simp only [List.getElem_toArray]
      try simp only [List.getElem_cons_succ]
      try simp only [List.getElem_cons_zero]
      try simp only [Act.put]
      try simp only [List.setIfInBounds_toArray]
      try simp only [List.set]
      refine wpAnyH_done (by kernel_rfl) ?_ _
      have hH := hHeld
      clear hHeld
      by_cases hbig : 16000 < n + m + j
      · have hb : (16000 : Int) < (n : Int) + (m : Int) + (j : Int) := by omega
        have HQ2 : Hid (alQ xs ys 0 us = 9) := by show _ = _; rw [HQ.out]; simp [hbig]
        have HS2 : Hid (alS xs ys 0 us = [] ∧ alL xs ys 0 us = []) := by unfold alS alL; rw [HQ2.out]; exact ⟨rfl, rfl⟩
        have hg := hA.g
        have hs := hA.lt
        obtain ⟨a0, a1, a2, f0, f1, f2, _⟩ := hA
        clear hH
        go_wp2_with fail
        refine bodyPost_ret (v := .agg #[.int .i64 9, .slice none 0 0, .slice none 0 0]) (by simp [results, Try.results21, go_sem, *]) rfl ?_
        rw [HQ2.out, HS2.out.1, HS2.out.2]
        exact ⟨none, 0, none, 0, w.heap.size, rfl, Nat.le_refl _, Nat.le_refl _, by omega, by omega, by go_grown, LogIn.none_ _ _ _ _ _ (by simp; omega)⟩
      · have hb : ¬ ((16000 : Int) < (n : Int) + (m : Int) + (j : Int)) := by omega
        have HQ2 : Hid (alQ xs ys 0 us = 0) := by show _ = _; rw [HQ.out]; simp [hbig]
        have HS2 : Hid (alS xs ys 0 us = xs ∧ alL xs ys 0 us = ys ++ us) := by unfold alS alL; rw [HQ2.out]; exact ⟨rfl, rfl⟩
        go_upto_region 9 with (fail)
        have gD : Below w3.heap.size w3 w3.drew := (Below.refl _ _).drew
        refine wp_region_held_drew (S := fun V => LgAt V w.heap.size x n c y m d ∧ V.cell? ⟨bx, 0, none⟩ = some (.int .i64 0) ∧ V.cell? ⟨bx, 1, none⟩ = some (.slice pa j da)) (by kernel_rfl) ⟨hH.1.up gD, cellUp gD hH.2.1, cellUp gD hH.2.2⟩ (fun hHeld => ?_)
        have hA := hA.up gD
        have HBy : Hid (BytesIn (w.heap.size + 3) w3.drew.heap.size w3.drew pa us) := (HBy.out.below gD).mono (Nat.le_refl _) gD.size
        generalize w3.drew = D2 at hHeld hA HBy ⊢
        clear hH gD
        refine wpAnyH_take (i := 0) (v := ?v7) rfl (by kernel_rfl) (by kernel_rfl) (by kernel_rfl) (fun _ _ _ h => h) (Or.inl ⟨by kernel_rfl, ?h7⟩) hHeld ?_
        case h7 => intro u hSw; (try dsimp only at hSw); go_simp; try with_reducible rfl
        try simp only [List.getElem_toArray]
        try simp only [List.getElem_cons_succ]
        try simp only [List.getElem_cons_zero]
        try simp only [Act.put]
        try simp only [List.setIfInBounds_toArray]
        try simp only [List.set]
        refine wpAnyH_take (i := 1) (v := ?v8) rfl (by kernel_rfl) (by kernel_rfl) (by kernel_rfl) (fun _ _ _ h => h) (Or.inl ⟨by kernel_rfl, ?h8⟩) hHeld ?_
        case h8 => intro u hSw; obtain ⟨⟨q0, q1⟩, q2, q3⟩ := hSw; go_simp; try with_reducible rfl
        try simp only [List.getElem_toArray]
        try simp only [List.getElem_cons_succ]
        try simp only [List.getElem_cons_zero]
        try simp only [Act.put]
        try simp only [List.setIfInBounds_toArray]
        try simp only [List.set]
        refine wpAnyH_take (i := 3) (v := ?v9) rfl (by kernel_rfl) (by kernel_rfl) (by kernel_rfl) (fun _ _ _ h => h) (Or.inl ⟨by kernel_rfl, ?h9⟩) hHeld ?_
        case h9 => intro u hSw; (try dsimp only at hSw); go_simp; try with_reducible rfl
        try simp only [List.getElem_toArray]
        try simp only [List.getElem_cons_succ]
        try simp only [List.getElem_cons_zero]
        try simp only [Act.put]
        try simp only [List.setIfInBounds_toArray]
        try simp only [List.set]
        refine wpAnyH_take (i := 4) (v := ?v10) rfl (by kernel_rfl) (by kernel_rfl) (by kernel_rfl) (fun _ _ _ h => h) (Or.inl ⟨by kernel_rfl, ?h10⟩) hHeld ?_
        case h10 => intro u hSw; obtain ⟨⟨q0, q1⟩, q2, q3⟩ := hSw; go_simp; try with_reducible rfl
        try simp only [List.getElem_toArray]
        try simp only [List.getElem_cons_succ]
        try simp only [List.getElem_cons_zero]
        try simp only [Act.put]
        try simp only [List.setIfInBounds_toArray]
        try simp only [List.set]
        refine wpAnyH_take (i := 5) (v := ?v11) rfl (by kernel_rfl) (by kernel_rfl) (by kernel_rfl) (fun _ _ _ h => h) (Or.inl ⟨by kernel_rfl, ?h11⟩) hHeld ?_
        case h11 => intro u hSw; (try dsimp only at hSw); go_simp; try with_reducible rfl
        try simp only [List.getElem_toArray]
        try simp only [List.getElem_cons_succ]
        try simp only [List.getElem_cons_zero]
        try simp only [Act.put]
        try simp only [List.setIfInBounds_toArray]
        try simp only [List.set]
        refine wpAnyH_take (i := 6) (v := ?v12) rfl (by kernel_rfl) (by kernel_rfl) (by kernel_rfl) (fun _ _ _ h => h) (Or.inl ⟨by kernel_rfl, ?h12⟩) hHeld ?_
        case h12 => intro u hSw; obtain ⟨⟨q0, q1⟩, q2, q3⟩ := hSw; go_simp; try with_reducible rfl
        try simp only [List.getElem_toArray]
        try simp only [List.getElem_cons_succ]
        try simp only [List.getElem_cons_zero]
        try simp only [Act.put]
        try simp only [List.setIfInBounds_toArray]
        try simp only [List.set]
        have hDs := hA.lt
        refine wpAnyH_ready (rs := [2, 7]) (by kernel_rfl) (by simp) ?_
        refine AllReadyH.cons rfl (fun K hK => ?_) (AllReadyH.cons rfl (fun K hK => ?_) AllReadyH.nil)
        · go_simp
          go_wp2_with (go_at_call 77; refine (HCl.out _ hA.g).mono ?_; rintro e w4 ⟨v4, rfl, g4, hG4⟩)
          refine hK.out _ _ ⟨hHeld.1.up g4, cellUp g4 hHeld.2.1, cellUp g4 hHeld.2.2⟩ (fun hHeld => ?_)
          clear hK K
          have hA4 := hA.up g4
          have hs4 := g4.size
          obtain ⟨p4, c4, rfl, hcp4, hcm4, hBy4, _⟩ := hG4.shape
          rw [HN.out] at hcp4 ⊢
          have HBy : Hid (BytesIn (w.heap.size + 3) w4.heap.size w4 pa us) := (HBy.out.below g4).mono (Nat.le_refl _) g4.size
          clear hG4
          try simp only [Act.put]
          try simp only [List.setIfInBounds_toArray]
          try simp only [List.set]
          have gb : Below w4.heap.size w4 (w4.alloc (.cells #[.slice y m d, .slice pa j da] 22)) := by go_grown
          have hAw := hA4.up gb
          have r8 : TwoAt (w4.alloc (.cells #[.slice y m d, .slice pa j da] 22)) w4.heap.size y m d pa j da := ⟨by simp [go_sem], by simp [go_sem]⟩
          have HRw : Hid (Reads (w4.alloc (.cells #[.slice y m d, .slice pa j da] 22)) pa us) := (HBy.out.below gb).reads
          have HByw : Hid (BytesIn (w.heap.size + 3) (w4.alloc (.cells #[.slice y m d, .slice pa j da] 22)).heap.size (w4.alloc (.cells #[.slice y m d, .slice pa j da] 22)) p4 xs) := (hBy4.below gb).mono (by omega) gb.size
          have hWs : w.heap.size + 3 ≤ (w4.alloc (.cells #[.slice y m d, .slice pa j da] 22)).heap.size := by rw [World.size_alloc]; omega
          refine wpAnyH_ready (rs := [7]) (by kernel_rfl) (by simp) ?_
          refine AllReadyH.cons rfl (fun K hK => ?_) AllReadyH.nil
          go_simp
          refine hK.out _ _ ⟨hHeld.1.up gb, cellUp gb hHeld.2.1, cellUp gb hHeld.2.2⟩ (fun hHeld => ?_)
          clear hK K gb hBy4 hA4 HBy
          generalize w4.alloc (.cells #[.slice y m d, .slice pa j da] 22) = W at hHeld hAw r8 HRw HByw hWs ⊢
          generalize w4.heap.size = blk at r8 ⊢
          try simp only [Act.put]
          try simp only [List.setIfInBounds_toArray]
          try simp only [List.set]
          refine wpAnyH_ready (rs := [8]) (by kernel_rfl) (by simp) ?_
          refine AllReadyH.cons rfl (fun K hK => ?_) AllReadyH.nil
          go_simp
          go_wp2_with (go_at_call 78; refine (HC.out _ _ _ _ hAw.g HRw.out r8).mono ?_; rintro e w5 ⟨v5, rfl, g5, hG5⟩)
          refine hK.out _ _ (⟨hHeld.1.up g5, cellUp g5 hHeld.2.1, cellUp g5 hHeld.2.2⟩) (fun hHeld => ?_)
          clear hK K
          have hA5 := hAw.up g5
          have hs5 := g5.size
          obtain ⟨p5, c5, rfl, hcp5, hcm5, hBy5, _⟩ := hG5.shape
          have hBy45 := HByw.out.below g5
          clear hG5 g5 r8 hAw HRw HByw
          try simp only [Act.put]
          try simp only [List.setIfInBounds_toArray]
          try simp only [List.set]
          generalize hk5 : (ys ++ us).length = k5 at hcp5 ⊢
          have HK5 : Hid ((ys ++ us).length = k5) := hk5
          clear hk5
          refine wpAnyH_take (i := 9) (v := ?v13) rfl (by kernel_rfl) (by kernel_rfl) (by kernel_rfl) (fun _ _ _ h => h) (Or.inl ⟨by kernel_rfl, ?h13⟩) hHeld ?_
          case h13 => intro u hSw; (try dsimp only at hSw); go_simp; try with_reducible rfl
          try simp only [List.getElem_toArray]
          try simp only [List.getElem_cons_succ]
          try simp only [List.getElem_cons_zero]
          try simp only [Act.put]
          try simp only [List.setIfInBounds_toArray]
          try simp only [List.set]
          refine wpAnyH_take (i := 10) (v := ?v14) rfl (by kernel_rfl) (by kernel_rfl) (by kernel_rfl) (fun _ _ _ h => h) (Or.inl ⟨by kernel_rfl, ?h14⟩) hHeld ?_
          case h14 => intro u hSw; (try dsimp only at hSw); go_simp; try with_reducible rfl
          try simp only [List.getElem_toArray]
          try simp only [List.getElem_cons_succ]
          try simp only [List.getElem_cons_zero]
          try simp only [Act.put]
          try simp only [List.setIfInBounds_toArray]
          try simp only [List.set]
          have HIn : Hid (LogIn (w.heap.size + 3) W.heap.size w5.heap.size w5 p4 p5 xs (ys ++ us)) := ⟨hBy45, hBy5, hWs, hs5⟩
          obtain ⟨a0, a1, a2, f0, f1, f2, hg⟩ := hA5
          have T : Turned (w.heap.size + 2) (w.heap.size + 3) w5 (((w5.setCell ⟨w.heap.size + 2, 0, none⟩ (.int .i64 0)).setCell ⟨w.heap.size + 2, 1, none⟩ (.slice p4 n c4)).setCell ⟨w.heap.size + 2, 2, none⟩ (.slice p5 k5 c5)) := (((Turned.refl _ _ w5).setCell (p := ⟨w.heap.size + 2, 0, none⟩) (by simp) (by simp) _).setCell (p := ⟨w.heap.size + 2, 1, none⟩) (by simp) (by simp) _).setCell (p := ⟨w.heap.size + 2, 2, none⟩) (by simp) (by simp) _
          have HIz : Hid (LogIn w.heap.size W.heap.size w5.heap.size (((w5.setCell ⟨w.heap.size + 2, 0, none⟩ (.int .i64 0)).setCell ⟨w.heap.size + 2, 1, none⟩ (.slice p4 n c4)).setCell ⟨w.heap.size + 2, 2, none⟩ (.slice p5 k5 c5)) p4 p5 xs (ys ++ us)) := (HIn.out.turned T (.inr (Nat.le_refl _))).mono (by omega) (Nat.le_refl _)
          have hsb : bx < w5.heap.size := World.block_lt_of_cell? w5 _ hHeld.2.1
          refine wpAnyH_ready (rs := [11]) (by kernel_rfl) (by simp) ?_
          refine AllReadyH.cons rfl (fun K hK => ?_) AllReadyH.nil
          go_simp
          refine hK.out _ _ ⟨hHeld.1.turned T (.inl (by omega)), T.cell hHeld.2.1 (.inr (by simp only; omega)), T.cell hHeld.2.2 (.inr (by simp only; omega))⟩ (fun hHeld => ?_)
          clear hK K
          try simp only [Act.put]
          try simp only [List.setIfInBounds_toArray]
          try simp only [List.set]
          refine wpAnyH_done (by kernel_rfl) ?_ _
          clear hHeld
          go_wp2_with fail
          refine bodyPost_ret (v := .agg #[.int .i64 0, .slice p4 n c4, .slice p5 k5 c5]) (by simp [results, Try.results21, go_sem, *]) rfl ?_
          rw [HQ2.out, HS2.out.1, HS2.out.2]
          exact ⟨p4, c4, p5, c5, W.heap.size, by rw [HN.out, HK5.out], by rw [HN.out]; exact hcp4, by rw [HK5.out]; exact hcp5, hcm4, hcm5, by go_grown, HIz.out.mono (Nat.le_refl _) (by simp)⟩
        · have gb : Below D2.heap.size D2 (D2.alloc (.cells #[.slice y m d, .slice pa j da] 22)) := by go_grown
          have hA8 := hA.up gb
          have r8 : TwoAt (D2.alloc (.cells #[.slice y m d, .slice pa j da] 22)) D2.heap.size y m d pa j da := ⟨by simp [go_sem], by simp [go_sem]⟩
          have HBy : Hid (BytesIn (w.heap.size + 3) (D2.alloc (.cells #[.slice y m d, .slice pa j da] 22)).heap.size (D2.alloc (.cells #[.slice y m d, .slice pa j da] 22)) pa us) := (HBy.out.below gb).mono (Nat.le_refl _) gb.size
          have hs8 : w.heap.size + 3 ≤ (D2.alloc (.cells #[.slice y m d, .slice pa j da] 22)).heap.size := by rw [World.size_alloc]; omega
          go_simp
          refine hK.out _ _ ⟨hHeld.1.up gb, cellUp gb hHeld.2.1, cellUp gb hHeld.2.2⟩ (fun hHeld => ?_)
          clear hK K gb
          generalize D2.alloc (.cells #[.slice y m d, .slice pa j da] 22) = D8 at hHeld hA8 r8 HBy hs8 ⊢
          generalize D2.heap.size = blk at r8 ⊢
          try simp only [Act.put]
          try simp only [List.setIfInBounds_toArray]
          try simp only [List.set]
          refine wpAnyH_ready (rs := [2]) (by kernel_rfl) (by simp) ?_
          refine AllReadyH.cons rfl (fun K hK => ?_) AllReadyH.nil
          go_simp
          go_wp2_with (go_at_call 77; refine (HCl.out _ hA8.g).mono ?_; rintro e W ⟨v4, rfl, g4, hG4⟩)
          refine hK.out _ _ (⟨hHeld.1.up g4, cellUp g4 hHeld.2.1, cellUp g4 hHeld.2.2⟩) (fun hHeld => ?_)
          clear hK K
          have hAw := hA8.up g4
          have hs4 := g4.size
          obtain ⟨p4, c4, rfl, hcp4, hcm4, hBy4, _⟩ := hG4.shape
          rw [HN.out] at hcp4 ⊢
          have HRw : Hid (Reads W pa us) := (HBy.out.below g4).reads
          have r8 : TwoAt W blk y m d pa j da := ⟨cellUp g4 r8.c0, cellUp g4 r8.c1⟩
          have HByw : Hid (BytesIn (w.heap.size + 3) W.heap.size W p4 xs) := hBy4.mono hs8 (Nat.le_refl _)
          have hWs : w.heap.size + 3 ≤ W.heap.size := by omega
          clear hG4 hBy4 HBy g4 hA8
          try simp only [Act.put]
          try simp only [List.setIfInBounds_toArray]
          try simp only [List.set]
          refine wpAnyH_ready (rs := [8]) (by kernel_rfl) (by simp) ?_
          refine AllReadyH.cons rfl (fun K hK => ?_) AllReadyH.nil
          go_simp
          go_wp2_with (go_at_call 78; refine (HC.out _ _ _ _ hAw.g HRw.out r8).mono ?_; rintro e w5 ⟨v5, rfl, g5, hG5⟩)
          refine hK.out _ _ (⟨hHeld.1.up g5, cellUp g5 hHeld.2.1, cellUp g5 hHeld.2.2⟩) (fun hHeld => ?_)
          clear hK K
          have hA5 := hAw.up g5
          have hs5 := g5.size
          obtain ⟨p5, c5, rfl, hcp5, hcm5, hBy5, _⟩ := hG5.shape
          have hBy45 := HByw.out.below g5
          clear hG5 g5 r8 hAw HRw HByw
          try simp only [Act.put]
          try simp only [List.setIfInBounds_toArray]
          try simp only [List.set]
          generalize hk5 : (ys ++ us).length = k5 at hcp5 ⊢
          have HK5 : Hid ((ys ++ us).length = k5) := hk5
          clear hk5
          refine wpAnyH_take (i := 9) (v := ?v15) rfl (by kernel_rfl) (by kernel_rfl) (by kernel_rfl) (fun _ _ _ h => h) (Or.inl ⟨by kernel_rfl, ?h15⟩) hHeld ?_
          case h15 => intro u hSw; (try dsimp only at hSw); go_simp; try with_reducible rfl
          try simp only [List.getElem_toArray]
          try simp only [List.getElem_cons_succ]
          try simp only [List.getElem_cons_zero]
          try simp only [Act.put]
          try simp only [List.setIfInBounds_toArray]
          try simp only [List.set]
          refine wpAnyH_take (i := 10) (v := ?v16) rfl (by kernel_rfl) (by kernel_rfl) (by kernel_rfl) (fun _ _ _ h => h) (Or.inl ⟨by kernel_rfl, ?h16⟩) hHeld ?_
          case h16 => intro u hSw; (try dsimp only at hSw); go_simp; try with_reducible rfl
          try simp only [List.getElem_toArray]
          try simp only [List.getElem_cons_succ]
          try simp only [List.getElem_cons_zero]
          try simp only [Act.put]
          try simp only [List.setIfInBounds_toArray]
          try simp only [List.set]
          have HIn : Hid (LogIn (w.heap.size + 3) W.heap.size w5.heap.size w5 p4 p5 xs (ys ++ us)) := ⟨hBy45, hBy5, hWs, hs5⟩
          obtain ⟨a0, a1, a2, f0, f1, f2, hg⟩ := hA5
          have T : Turned (w.heap.size + 2) (w.heap.size + 3) w5 (((w5.setCell ⟨w.heap.size + 2, 0, none⟩ (.int .i64 0)).setCell ⟨w.heap.size + 2, 1, none⟩ (.slice p4 n c4)).setCell ⟨w.heap.size + 2, 2, none⟩ (.slice p5 k5 c5)) := (((Turned.refl _ _ w5).setCell (p := ⟨w.heap.size + 2, 0, none⟩) (by simp) (by simp) _).setCell (p := ⟨w.heap.size + 2, 1, none⟩) (by simp) (by simp) _).setCell (p := ⟨w.heap.size + 2, 2, none⟩) (by simp) (by simp) _
          have HIz : Hid (LogIn w.heap.size W.heap.size w5.heap.size (((w5.setCell ⟨w.heap.size + 2, 0, none⟩ (.int .i64 0)).setCell ⟨w.heap.size + 2, 1, none⟩ (.slice p4 n c4)).setCell ⟨w.heap.size + 2, 2, none⟩ (.slice p5 k5 c5)) p4 p5 xs (ys ++ us)) := (HIn.out.turned T (.inr (Nat.le_refl _))).mono (by omega) (Nat.le_refl _)
          have hsb : bx < w5.heap.size := World.block_lt_of_cell? w5 _ hHeld.2.1
          refine wpAnyH_ready (rs := [11]) (by kernel_rfl) (by simp) ?_
          refine AllReadyH.cons rfl (fun K hK => ?_) AllReadyH.nil
          go_simp
          refine hK.out _ _ ⟨hHeld.1.turned T (.inl (by omega)), T.cell hHeld.2.1 (.inr (by simp only; omega)), T.cell hHeld.2.2 (.inr (by simp only; omega))⟩ (fun hHeld => ?_)
          clear hK K
          try simp only [Act.put]
          try simp only [List.setIfInBounds_toArray]
          try simp only [List.set]
          refine wpAnyH_done (by kernel_rfl) ?_ _
          clear hHeld
          go_wp2_with fail
          refine bodyPost_ret (v := .agg #[.int .i64 0, .slice p4 n c4, .slice p5 k5 c5]) (by simp [results, Try.results21, go_sem, *]) rfl ?_
          rw [HQ2.out, HS2.out.1, HS2.out.2]
          exact ⟨p4, c4, p5, c5, W.heap.size, by rw [HN.out, HK5.out], by rw [HN.out]; exact hcp4, by rw [HK5.out]; exact hcp5, hcm4, hcm5, by go_grown, HIz.out.mono (Nat.le_refl _) (by simp)⟩
    · have HQ2 : Hid (alQ xs ys rq us = rq) := by show _ = _; rw [HQ.out]; simp [hrq]
      have HS2 : Hid (alS xs ys rq us = [] ∧ alL xs ys rq us = []) := by unfold alS alL; rw [HQ2.out, if_neg hrq, if_neg hrq]; exact ⟨rfl, rfl⟩
      have hg := hA.g
      have hs := hA.lt
      obtain ⟨a0, a1, a2, f0, f1, f2, _⟩ := hA
      go_wp2_with fail
      refine bodyPost_ret (v := .agg #[.int .i64 rq, .slice none 0 0, .slice none 0 0]) (by simp [results, Try.results21, go_sem, *]) rfl ?_
      rw [HQ2.out, HS2.out.1, HS2.out.2]
      exact ⟨none, 0, none, 0, w.heap.size, rfl, Nat.le_refl _, Nat.le_refl _, by omega, by omega, by go_grown, LogIn.none_ _ _ _ _ _ (by simp; omega)⟩
  · have HQ2 : Hid (alQ xs ys rq us = q) := by show _ = _; rw [HQ.out, if_neg hq]
    have HS2 : Hid (alS xs ys rq us = [] ∧ alL xs ys rq us = []) := by unfold alS alL; rw [HQ2.out, if_neg hq, if_neg hq]; exact ⟨rfl, rfl⟩
    have hg := hA.g
    have hs := hA.lt
    obtain ⟨a0, a1, a2, f0, f1, f2, _⟩ := hA
    go_wp2_with fail
    refine bodyPost_ret (v := .agg #[.int .i64 q, .slice none 0 0, .slice none 0 0]) (by simp [results, Try.results21, go_sem, *]) rfl ?_
    rw [HQ2.out, HS2.out.1, HS2.out.2]
    exact ⟨none, 0, none, 0, w.heap.size, rfl, Nat.le_refl _, Nat.le_refl _, by omega, by omega, by go_grown, LogIn.none_ _ _ _ _ _ (by simp; omega)⟩

end Go.Proofs.Ytcjkjenebnodbaa
