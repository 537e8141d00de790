/-
  The model's l4Text.
-/
import Derived.Test.YtcjkjenebnodbaaDoorSRed
import Derived.Test.YtcjkjenebnodbaaDoorSRtx

namespace Go.Proofs.YtcjkjenebnodbaaDoor
open Go.RowKit
set_option linter.unusedVariables false

/-- The condition held along a region may grow stronger on the way. -/
theorem wpAnyH_up {P : Program} {ops : Array Oper} {Q : Exit → Act → World → Prop} {md : Region.Mode} {S S' : World → Prop} (hss : ∀ w, S' w → S w) :
    ∀ (fuel : Nat) (listed : Array Bool) (a : Act) (w : World), wpAnyH P md ops Q S' fuel listed a w → wpAnyH P md ops Q S fuel listed a w
  | 0, _, _, _, h => h
  | fuel + 1, _, _, _, h => ⟨h.1, fun i hi => wpOp_mono (fun a' w' h' => ⟨hss _ h'.1, wpAnyH_up hss fuel _ a' w' h'.2⟩) (h.2 i hi)⟩

theorem txtS_1 (wd : ByteArray) (x : Nat) : wd ++ ⟨#[32]⟩ ++ decS x = txtS wd (one x) 1 := by
  simp [txtS, one, ByteArray.append_assoc]
theorem txtS_3 (wd : ByteArray) (x y z : Nat) : wd ++ ⟨#[32]⟩ ++ decS x ++ ⟨#[32]⟩ ++ decS y ++ ⟨#[32]⟩ ++ decS z = txtS wd (three x y z) 3 := by
  simp [txtS, three, ByteArray.append_assoc]

set_option maxHeartbeats 2000000 in
theorem l4Text_1 (b tx pg : Nat) (a : Option Addr) (n c : Nat) (P : Nat → Int) (A : Nat → Option Addr) (C : Nat → Nat) (Z : Nat → List Int) (w : World) (hm : n + took Z n ≤ 1048576) (hr : RunsRead w a n P A C Z) (h : RcAt w b 1 (tx : Int) (pg : Int) a n c) (htx : tx < 1000000) (hpg : pg < 1000000) (htk : took Z n < 1000000) :
    Calls Tryd.prog 39 #[.pointer (some ⟨b, 0, none⟩)] w fun e w' => e = .returned (.string (txtS ⟨#[98, 101, 103, 105, 110]⟩ (one tx) 1)) ∧ Below w.heap.size w w' := by
  have HR : Hid (RunsRead w a n P A C Z) := hr
  have HH : Hid (RcAt w b 1 (tx : Int) (pg : Int) a n c) := h
  have HTk : Hid (∀ j, j < n → took Z j + (Z j).length ≤ 1048576) := fun j hj => by
    have h := took_mono Z (j + 1) n hj
    simp only [took] at h
    omega
  have hsz := decS_size tx htx
  have z0 : ¬ 9223372036854775807 < 6 + (decS tx).size := by omega
  clear hr h
  go_enter Tryd.func39, Tryd.ntmps39
  go_upto_region 1 with (fail)
  go_cut [3] from 6 (fun s3 wc => s3 = .string (⟨#[98, 101, 103, 105, 110]⟩ ++ ⟨#[32]⟩ ++ decS tx) ∧ Below w.heap.size w wc)
  case first =>
    have gd : Below w.heap.size w w.drew := (Below.refl _ _).drew
    refine wp_region_held_drew (S := fun V => RcAt V b 1 (tx : Int) (pg : Int) a n c ∧ Below w.heap.size w V) (by kernel_rfl) ⟨HH.out.up gd, gd⟩ (fun hHeld => ?_)
    generalize w.drew = D at hHeld ⊢
    clear gd
    refine wpAnyH_take (i := 1) (v := ?v1) rfl (by kernel_rfl) (by kernel_rfl) (by kernel_rfl) (fun _ _ _ h => h) (Or.inl ⟨by kernel_rfl, ?h1⟩) hHeld ?_
    case h1 => intro u hSw; (try dsimp only at hSw); go_simp; try with_reducible rfl
    try simp only [List.getElem_toArray]
    try simp only [List.getElem_cons_succ]
    try simp only [List.getElem_cons_zero]
    try simp only [Act.put]
    try simp only [List.setIfInBounds_toArray]
    try simp only [List.set]
    refine wpAnyH_take (i := 2) (v := ?v2) rfl (by kernel_rfl) (by kernel_rfl) (by kernel_rfl) (fun _ _ _ h => h) (Or.inl ⟨by kernel_rfl, ?h2⟩) hHeld ?_
    case h2 => intro u hSw; (try dsimp only at hSw); go_simp; try with_reducible rfl
    try simp only [List.getElem_toArray]
    try simp only [List.getElem_cons_succ]
    try simp only [List.getElem_cons_zero]
    try simp only [Act.put]
    try simp only [List.setIfInBounds_toArray]
    try simp only [List.set]
    refine wpAnyH_take (i := 3) (v := ?v3) rfl (by kernel_rfl) (by kernel_rfl) (by kernel_rfl) (fun _ _ _ h => h) (Or.inl ⟨by kernel_rfl, ?h3⟩) hHeld ?_
    case h3 => intro u hSw; (try dsimp only at hSw); go_simp; try with_reducible rfl
    try simp only [List.getElem_toArray]
    try simp only [List.getElem_cons_succ]
    try simp only [List.getElem_cons_zero]
    try simp only [Act.put]
    try simp only [List.setIfInBounds_toArray]
    try simp only [List.set]
    refine wpAnyH_take (i := 4) (v := ?v4) rfl (by kernel_rfl) (by kernel_rfl) (by kernel_rfl) (fun _ _ _ h => h) (Or.inl ⟨by kernel_rfl, ?h4⟩) hHeld ?_
    case h4 => intro u hSw; obtain ⟨⟨c0, c1, c2, c3⟩, _⟩ := hSw; go_simp; try with_reducible rfl
    try simp only [List.getElem_toArray]
    try simp only [List.getElem_cons_succ]
    try simp only [List.getElem_cons_zero]
    try simp only [Act.put]
    try simp only [List.setIfInBounds_toArray]
    try simp only [List.set]
    refine wpAnyH_take (i := 8) (v := ?v5) rfl (by kernel_rfl) (by kernel_rfl) (by kernel_rfl) (fun _ _ _ h => h) (Or.inl ⟨by kernel_rfl, ?h5⟩) hHeld ?_
    case h5 => intro u hSw; (try dsimp only at hSw); go_simp; try with_reducible rfl
    try simp only [List.getElem_toArray]
    try simp only [List.getElem_cons_succ]
    try simp only [List.getElem_cons_zero]
    try simp only [Act.put]
    try simp only [List.setIfInBounds_toArray]
    try simp only [List.set]
    refine wpAnyH_take (i := 9) (v := ?v6) rfl (by kernel_rfl) (by kernel_rfl) (by kernel_rfl) (fun _ _ _ h => h) (Or.inl ⟨by kernel_rfl, ?h6⟩) hHeld ?_
    case h6 => intro u hSw; (try dsimp only at hSw); go_simp; try with_reducible rfl
    try simp only [List.getElem_toArray]
    try simp only [List.getElem_cons_succ]
    try simp only [List.getElem_cons_zero]
    try simp only [Act.put]
    try simp only [List.setIfInBounds_toArray]
    try simp only [List.set]
    refine wpAnyH_take (i := 10) (v := ?v7) rfl (by kernel_rfl) (by kernel_rfl) (by kernel_rfl) (fun _ _ _ h => h) (Or.inl ⟨by kernel_rfl, ?h7⟩) hHeld ?_
    case h7 => intro u hSw; (try dsimp only at hSw); go_simp; try with_reducible rfl
    try simp only [List.getElem_toArray]
    try simp only [List.getElem_cons_succ]
    try simp only [List.getElem_cons_zero]
    try simp only [Act.put]
    try simp only [List.setIfInBounds_toArray]
    try simp only [List.set]
    refine wpAnyH_take (i := 11) (v := ?v8) rfl (by kernel_rfl) (by kernel_rfl) (by kernel_rfl) (fun _ _ _ h => h) (Or.inl ⟨by kernel_rfl, ?h8⟩) hHeld ?_
    case h8 => intro u hSw; obtain ⟨⟨c0, c1, c2, c3⟩, _⟩ := hSw; go_simp; try with_reducible rfl
    try simp only [List.getElem_toArray]
    try simp only [List.getElem_cons_succ]
    try simp only [List.getElem_cons_zero]
    try simp only [Act.put]
    try simp only [List.setIfInBounds_toArray]
    try simp only [List.set]
    refine wpAnyH_ready (rs := [0, 12]) (by kernel_rfl) (by simp) ?_
    refine AllReadyH.cons rfl (fun K hK => ?_) (AllReadyH.cons rfl (fun K hK => ?_) AllReadyH.nil)
    · go_simp
      have gb : ∀ o, Below D.heap.size D (D.alloc o) := fun o => by go_grown
      refine hK.out _ _ (⟨hHeld.1.up (gb _), hHeld.2.trans ((gb _).mono hHeld.2.size)⟩) (fun hHeld => ?_)
      clear hK K gb
      try simp only [Act.put]
      try simp only [List.setIfInBounds_toArray]
      try simp only [List.set]
      have hw : (D.alloc (.cells #[.string ⟨#[]⟩, .string ⟨#[98, 101, 103, 105, 110]⟩, .string ⟨#[100, 101, 108, 116, 97]⟩, .string ⟨#[99, 111, 109, 112]⟩, .string ⟨#[105, 109, 97, 103, 101]⟩, .string ⟨#[99, 111, 109, 109, 105, 116]⟩, .string ⟨#[97, 98, 111, 114, 116]⟩] 9)).cell? ⟨D.heap.size, 1, none⟩ = some (.string ⟨#[98, 101, 103, 105, 110]⟩) := by simp [go_sem]
      generalize D.alloc (.cells #[.string ⟨#[]⟩, .string ⟨#[98, 101, 103, 105, 110]⟩, .string ⟨#[100, 101, 108, 116, 97]⟩, .string ⟨#[99, 111, 109, 112]⟩, .string ⟨#[105, 109, 97, 103, 101]⟩, .string ⟨#[99, 111, 109, 109, 105, 116]⟩, .string ⟨#[97, 98, 111, 114, 116]⟩] 9) = X at hw hHeld ⊢
      generalize D.heap.size = gg at hw ⊢
      refine wpAnyH_up (S' := fun V => (RcAt V b 1 (tx : Int) (pg : Int) a n c ∧ Below w.heap.size w V) ∧ V.cell? ⟨gg, 1, none⟩ = some (.string ⟨#[98, 101, 103, 105, 110]⟩)) (fun _ h => h.1) _ _ _ _ ?_
      have hHeld : (fun V => (RcAt V b 1 (tx : Int) (pg : Int) a n c ∧ Below w.heap.size w V) ∧ V.cell? ⟨gg, 1, none⟩ = some (.string ⟨#[98, 101, 103, 105, 110]⟩)) X := ⟨hHeld, hw⟩
      clear hw
      refine wpAnyH_take (i := 5) (v := ?v9) rfl (by kernel_rfl) (by kernel_rfl) (by kernel_rfl) (fun _ _ _ h => h) (Or.inl ⟨by kernel_rfl, ?h9⟩) hHeld ?_
      case h9 => intro u hSw; (try dsimp only at hSw); go_simp; try with_reducible rfl
      try simp only [List.getElem_toArray]
      try simp only [List.getElem_cons_succ]
      try simp only [List.getElem_cons_zero]
      try simp only [Act.put]
      try simp only [List.setIfInBounds_toArray]
      try simp only [List.set]
      refine wpAnyH_take (i := 6) (v := ?v10) rfl (by kernel_rfl) (by kernel_rfl) (by kernel_rfl) (fun _ _ _ h => h) (Or.inl ⟨by kernel_rfl, ?h10⟩) hHeld ?_
      case h10 => intro u hSw; obtain ⟨_, cw⟩ := hSw; go_simp; try with_reducible rfl
      try simp only [List.getElem_toArray]
      try simp only [List.getElem_cons_succ]
      try simp only [List.getElem_cons_zero]
      try simp only [Act.put]
      try simp only [List.setIfInBounds_toArray]
      try simp only [List.set]
      refine wpAnyH_take (i := 7) (v := ?v11) rfl (by kernel_rfl) (by kernel_rfl) (by kernel_rfl) (fun _ _ _ h => h) (Or.inl ⟨by kernel_rfl, ?h11⟩) hHeld ?_
      case h11 => intro u hSw; (try dsimp only at hSw); go_simp; try with_reducible rfl
      try simp only [List.getElem_toArray]
      try simp only [List.getElem_cons_succ]
      try simp only [List.getElem_cons_zero]
      try simp only [Act.put]
      try simp only [List.setIfInBounds_toArray]
      try simp only [List.set]
      refine wpAnyH_ready (rs := [12]) (by kernel_rfl) (by simp) ?_
      refine AllReadyH.cons rfl (fun K hK => ?_) AllReadyH.nil
      go_simp
      go_wp2_with (go_at_call 62; refine (l1Digits_any tx htx _).mono ?_; rintro e w7 ⟨rfl, hb⟩)
      refine hK.out _ _ (⟨⟨hHeld.1.1.up hb, hHeld.1.2.trans (hb.mono hHeld.1.2.size)⟩, cellUp hb hHeld.2⟩) (fun hHeld => ?_)
      clear hK K
      clear hb
      try simp only [Act.put]
      try simp only [List.setIfInBounds_toArray]
      try simp only [List.set]
      refine wpAnyH_take (i := 13) (v := ?v12) rfl (by kernel_rfl) (by kernel_rfl) (by kernel_rfl) (fun _ _ _ h => h) (Or.inl ⟨by kernel_rfl, ?h12⟩) hHeld ?_
      case h12 => intro u hSw; (try dsimp only at hSw); go_simp; try with_reducible rfl
      try simp only [List.getElem_toArray]
      try simp only [List.getElem_cons_succ]
      try simp only [List.getElem_cons_zero]
      try simp only [Act.put]
      try simp only [List.setIfInBounds_toArray]
      try simp only [List.set]
      refine wpAnyH_take (i := 14) (v := ?v13) rfl (by kernel_rfl) (by kernel_rfl) (by kernel_rfl) (fun _ _ _ h => h) (Or.inl ⟨by kernel_rfl, ?h13⟩) hHeld ?_
      case h13 => intro u hSw; (try dsimp only at hSw); go_simp; try with_reducible rfl
      try simp only [List.getElem_toArray]
      try simp only [List.getElem_cons_succ]
      try simp only [List.getElem_cons_zero]
      try simp only [Act.put]
      try simp only [List.setIfInBounds_toArray]
      try simp only [List.set]
      refine wpAnyH_done (by kernel_rfl) ?_ _
      go_wp2_with fail
      go_meet
      exact ⟨rfl, hHeld.1.2⟩
    · go_simp
      go_wp2_with (go_at_call 62; refine (l1Digits_any tx htx _).mono ?_; rintro e w7 ⟨rfl, hb⟩)
      refine hK.out _ _ (⟨hHeld.1.up hb, hHeld.2.trans (hb.mono hHeld.2.size)⟩) (fun hHeld => ?_)
      clear hK K hb
      try simp only [Act.put]
      try simp only [List.setIfInBounds_toArray]
      try simp only [List.set]
      refine wpAnyH_ready (rs := [0]) (by kernel_rfl) (by simp) ?_
      refine AllReadyH.cons rfl (fun K hK => ?_) AllReadyH.nil
      go_simp
      have gb : ∀ o, Below w7.heap.size w7 (w7.alloc o) := fun o => by go_grown
      refine hK.out _ _ (⟨hHeld.1.up (gb _), hHeld.2.trans ((gb _).mono hHeld.2.size)⟩) (fun hHeld => ?_)
      clear hK K gb
      try simp only [Act.put]
      try simp only [List.setIfInBounds_toArray]
      try simp only [List.set]
      have hw : (w7.alloc (.cells #[.string ⟨#[]⟩, .string ⟨#[98, 101, 103, 105, 110]⟩, .string ⟨#[100, 101, 108, 116, 97]⟩, .string ⟨#[99, 111, 109, 112]⟩, .string ⟨#[105, 109, 97, 103, 101]⟩, .string ⟨#[99, 111, 109, 109, 105, 116]⟩, .string ⟨#[97, 98, 111, 114, 116]⟩] 9)).cell? ⟨w7.heap.size, 1, none⟩ = some (.string ⟨#[98, 101, 103, 105, 110]⟩) := by simp [go_sem]
      generalize w7.alloc (.cells #[.string ⟨#[]⟩, .string ⟨#[98, 101, 103, 105, 110]⟩, .string ⟨#[100, 101, 108, 116, 97]⟩, .string ⟨#[99, 111, 109, 112]⟩, .string ⟨#[105, 109, 97, 103, 101]⟩, .string ⟨#[99, 111, 109, 109, 105, 116]⟩, .string ⟨#[97, 98, 111, 114, 116]⟩] 9) = X at hw hHeld ⊢
      generalize w7.heap.size = gg at hw ⊢
      refine wpAnyH_up (S' := fun V => (RcAt V b 1 (tx : Int) (pg : Int) a n c ∧ Below w.heap.size w V) ∧ V.cell? ⟨gg, 1, none⟩ = some (.string ⟨#[98, 101, 103, 105, 110]⟩)) (fun _ h => h.1) _ _ _ _ ?_
      have hHeld : (fun V => (RcAt V b 1 (tx : Int) (pg : Int) a n c ∧ Below w.heap.size w V) ∧ V.cell? ⟨gg, 1, none⟩ = some (.string ⟨#[98, 101, 103, 105, 110]⟩)) X := ⟨hHeld, hw⟩
      clear hw
      refine wpAnyH_take (i := 5) (v := ?v14) rfl (by kernel_rfl) (by kernel_rfl) (by kernel_rfl) (fun _ _ _ h => h) (Or.inl ⟨by kernel_rfl, ?h14⟩) hHeld ?_
      case h14 => intro u hSw; (try dsimp only at hSw); go_simp; try with_reducible rfl
      try simp only [List.getElem_toArray]
      try simp only [List.getElem_cons_succ]
      try simp only [List.getElem_cons_zero]
      try simp only [Act.put]
      try simp only [List.setIfInBounds_toArray]
      try simp only [List.set]
      refine wpAnyH_take (i := 6) (v := ?v15) rfl (by kernel_rfl) (by kernel_rfl) (by kernel_rfl) (fun _ _ _ h => h) (Or.inl ⟨by kernel_rfl, ?h15⟩) hHeld ?_
      case h15 => intro u hSw; obtain ⟨_, cw⟩ := hSw; go_simp; try with_reducible rfl
      try simp only [List.getElem_toArray]
      try simp only [List.getElem_cons_succ]
      try simp only [List.getElem_cons_zero]
      try simp only [Act.put]
      try simp only [List.setIfInBounds_toArray]
      try simp only [List.set]
      refine wpAnyH_take (i := 7) (v := ?v16) rfl (by kernel_rfl) (by kernel_rfl) (by kernel_rfl) (fun _ _ _ h => h) (Or.inl ⟨by kernel_rfl, ?h16⟩) hHeld ?_
      case h16 => intro u hSw; (try dsimp only at hSw); go_simp; try with_reducible rfl
      try simp only [List.getElem_toArray]
      try simp only [List.getElem_cons_succ]
      try simp only [List.getElem_cons_zero]
      try simp only [Act.put]
      try simp only [List.setIfInBounds_toArray]
      try simp only [List.set]
      refine wpAnyH_take (i := 13) (v := ?v17) rfl (by kernel_rfl) (by kernel_rfl) (by kernel_rfl) (fun _ _ _ h => h) (Or.inl ⟨by kernel_rfl, ?h17⟩) hHeld ?_
      case h17 => intro u hSw; (try dsimp only at hSw); go_simp; try with_reducible rfl
      try simp only [List.getElem_toArray]
      try simp only [List.getElem_cons_succ]
      try simp only [List.getElem_cons_zero]
      try simp only [Act.put]
      try simp only [List.setIfInBounds_toArray]
      try simp only [List.set]
      refine wpAnyH_take (i := 14) (v := ?v18) rfl (by kernel_rfl) (by kernel_rfl) (by kernel_rfl) (fun _ _ _ h => h) (Or.inl ⟨by kernel_rfl, ?h18⟩) hHeld ?_
      case h18 => intro u hSw; (try dsimp only at hSw); go_simp; try with_reducible rfl
      try simp only [List.getElem_toArray]
      try simp only [List.getElem_cons_succ]
      try simp only [List.getElem_cons_zero]
      try simp only [Act.put]
      try simp only [List.setIfInBounds_toArray]
      try simp only [List.set]
      refine wpAnyH_done (by kernel_rfl) ?_ _
      go_wp2_with fail
      go_meet
      exact ⟨rfl, hHeld.1.2⟩
  case rest =>
    obtain ⟨rfl, g⟩ := hcut
    obtain ⟨c0, c1, c2, c3⟩ := HH.out.up g
    go_wp2_with fail
    refine (l4Runs_any 1 _).mono ?_
    rintro e w' ⟨rfl, hw'⟩
    subst w'
    rw [show inR 1 2 4 = false from rfl]
    go_wp2_with fail
    go_ret
    exact ⟨congrArg (fun x => Ending.returned (.string x)) (txtS_1 _ _), g⟩

set_option maxHeartbeats 2000000 in
theorem l4Text_2 (b tx pg : Nat) (a : Option Addr) (n c : Nat) (P : Nat → Int) (A : Nat → Option Addr) (C : Nat → Nat) (Z : Nat → List Int) (w : World) (hm : n + took Z n ≤ 1048576) (hr : RunsRead w a n P A C Z) (h : RcAt w b 2 (tx : Int) (pg : Int) a n c) (htx : tx < 1000000) (hpg : pg < 1000000) (htk : took Z n < 1000000) :
    Calls Tryd.prog 39 #[.pointer (some ⟨b, 0, none⟩)] w fun e w' => e = .returned (.string (txtS ⟨#[100, 101, 108, 116, 97]⟩ (three tx pg (took Z n)) 3)) ∧ Below w.heap.size w w' := by
  have HR : Hid (RunsRead w a n P A C Z) := hr
  have HH : Hid (RcAt w b 2 (tx : Int) (pg : Int) a n c) := h
  have HTk : Hid (∀ j, j < n → took Z j + (Z j).length ≤ 1048576) := fun j hj => by
    have h := took_mono Z (j + 1) n hj
    simp only [took] at h
    omega
  have hsz := decS_size tx htx
  have z0 : ¬ 9223372036854775807 < 6 + (decS tx).size := by omega
  clear hr h
  go_enter Tryd.func39, Tryd.ntmps39
  go_upto_region 1 with (fail)
  go_cut [3] from 6 (fun s3 wc => s3 = .string (⟨#[100, 101, 108, 116, 97]⟩ ++ ⟨#[32]⟩ ++ decS tx) ∧ Below w.heap.size w wc)
  case first =>
    have gd : Below w.heap.size w w.drew := (Below.refl _ _).drew
    refine wp_region_held_drew (S := fun V => RcAt V b 2 (tx : Int) (pg : Int) a n c ∧ Below w.heap.size w V) (by kernel_rfl) ⟨HH.out.up gd, gd⟩ (fun hHeld => ?_)
    generalize w.drew = D at hHeld ⊢
    clear gd
    refine wpAnyH_take (i := 1) (v := ?v19) rfl (by kernel_rfl) (by kernel_rfl) (by kernel_rfl) (fun _ _ _ h => h) (Or.inl ⟨by kernel_rfl, ?h19⟩) hHeld ?_
    case h19 => intro u hSw; (try dsimp only at hSw); go_simp; try with_reducible rfl
    try simp only [List.getElem_toArray]
    try simp only [List.getElem_cons_succ]
    try simp only [List.getElem_cons_zero]
    try simp only [Act.put]
    try simp only [List.setIfInBounds_toArray]
    try simp only [List.set]
    refine wpAnyH_take (i := 2) (v := ?v20) rfl (by kernel_rfl) (by kernel_rfl) (by kernel_rfl) (fun _ _ _ h => h) (Or.inl ⟨by kernel_rfl, ?h20⟩) hHeld ?_
    case h20 => intro u hSw; (try dsimp only at hSw); go_simp; try with_reducible rfl
    try simp only [List.getElem_toArray]
    try simp only [List.getElem_cons_succ]
    try simp only [List.getElem_cons_zero]
    try simp only [Act.put]
    try simp only [List.setIfInBounds_toArray]
    try simp only [List.set]
    refine wpAnyH_take (i := 3) (v := ?v21) rfl (by kernel_rfl) (by kernel_rfl) (by kernel_rfl) (fun _ _ _ h => h) (Or.inl ⟨by kernel_rfl, ?h21⟩) hHeld ?_
    case h21 => intro u hSw; (try dsimp only at hSw); go_simp; try with_reducible rfl
    try simp only [List.getElem_toArray]
    try simp only [List.getElem_cons_succ]
    try simp only [List.getElem_cons_zero]
    try simp only [Act.put]
    try simp only [List.setIfInBounds_toArray]
    try simp only [List.set]
    refine wpAnyH_take (i := 4) (v := ?v22) rfl (by kernel_rfl) (by kernel_rfl) (by kernel_rfl) (fun _ _ _ h => h) (Or.inl ⟨by kernel_rfl, ?h22⟩) hHeld ?_
    case h22 => intro u hSw; obtain ⟨⟨c0, c1, c2, c3⟩, _⟩ := hSw; go_simp; try with_reducible rfl
    try simp only [List.getElem_toArray]
    try simp only [List.getElem_cons_succ]
    try simp only [List.getElem_cons_zero]
    try simp only [Act.put]
    try simp only [List.setIfInBounds_toArray]
    try simp only [List.set]
    refine wpAnyH_take (i := 8) (v := ?v23) rfl (by kernel_rfl) (by kernel_rfl) (by kernel_rfl) (fun _ _ _ h => h) (Or.inl ⟨by kernel_rfl, ?h23⟩) hHeld ?_
    case h23 => intro u hSw; (try dsimp only at hSw); go_simp; try with_reducible rfl
    try simp only [List.getElem_toArray]
    try simp only [List.getElem_cons_succ]
    try simp only [List.getElem_cons_zero]
    try simp only [Act.put]
    try simp only [List.setIfInBounds_toArray]
    try simp only [List.set]
    refine wpAnyH_take (i := 9) (v := ?v24) rfl (by kernel_rfl) (by kernel_rfl) (by kernel_rfl) (fun _ _ _ h => h) (Or.inl ⟨by kernel_rfl, ?h24⟩) hHeld ?_
    case h24 => intro u hSw; (try dsimp only at hSw); go_simp; try with_reducible rfl
    try simp only [List.getElem_toArray]
    try simp only [List.getElem_cons_succ]
    try simp only [List.getElem_cons_zero]
    try simp only [Act.put]
    try simp only [List.setIfInBounds_toArray]
    try simp only [List.set]
    refine wpAnyH_take (i := 10) (v := ?v25) rfl (by kernel_rfl) (by kernel_rfl) (by kernel_rfl) (fun _ _ _ h => h) (Or.inl ⟨by kernel_rfl, ?h25⟩) hHeld ?_
    case h25 => intro u hSw; (try dsimp only at hSw); go_simp; try with_reducible rfl
    try simp only [List.getElem_toArray]
    try simp only [List.getElem_cons_succ]
    try simp only [List.getElem_cons_zero]
    try simp only [Act.put]
    try simp only [List.setIfInBounds_toArray]
    try simp only [List.set]
    refine wpAnyH_take (i := 11) (v := ?v26) rfl (by kernel_rfl) (by kernel_rfl) (by kernel_rfl) (fun _ _ _ h => h) (Or.inl ⟨by kernel_rfl, ?h26⟩) hHeld ?_
    case h26 => intro u hSw; obtain ⟨⟨c0, c1, c2, c3⟩, _⟩ := hSw; go_simp; try with_reducible rfl
    try simp only [List.getElem_toArray]
    try simp only [List.getElem_cons_succ]
    try simp only [List.getElem_cons_zero]
    try simp only [Act.put]
    try simp only [List.setIfInBounds_toArray]
    try simp only [List.set]
    refine wpAnyH_ready (rs := [0, 12]) (by kernel_rfl) (by simp) ?_
    refine AllReadyH.cons rfl (fun K hK => ?_) (AllReadyH.cons rfl (fun K hK => ?_) AllReadyH.nil)
    · go_simp
      have gb : ∀ o, Below D.heap.size D (D.alloc o) := fun o => by go_grown
      refine hK.out _ _ (⟨hHeld.1.up (gb _), hHeld.2.trans ((gb _).mono hHeld.2.size)⟩) (fun hHeld => ?_)
      clear hK K gb
      try simp only [Act.put]
      try simp only [List.setIfInBounds_toArray]
      try simp only [List.set]
      have hw : (D.alloc (.cells #[.string ⟨#[]⟩, .string ⟨#[98, 101, 103, 105, 110]⟩, .string ⟨#[100, 101, 108, 116, 97]⟩, .string ⟨#[99, 111, 109, 112]⟩, .string ⟨#[105, 109, 97, 103, 101]⟩, .string ⟨#[99, 111, 109, 109, 105, 116]⟩, .string ⟨#[97, 98, 111, 114, 116]⟩] 9)).cell? ⟨D.heap.size, 2, none⟩ = some (.string ⟨#[100, 101, 108, 116, 97]⟩) := by simp [go_sem]
      generalize D.alloc (.cells #[.string ⟨#[]⟩, .string ⟨#[98, 101, 103, 105, 110]⟩, .string ⟨#[100, 101, 108, 116, 97]⟩, .string ⟨#[99, 111, 109, 112]⟩, .string ⟨#[105, 109, 97, 103, 101]⟩, .string ⟨#[99, 111, 109, 109, 105, 116]⟩, .string ⟨#[97, 98, 111, 114, 116]⟩] 9) = X at hw hHeld ⊢
      generalize D.heap.size = gg at hw ⊢
      refine wpAnyH_up (S' := fun V => (RcAt V b 2 (tx : Int) (pg : Int) a n c ∧ Below w.heap.size w V) ∧ V.cell? ⟨gg, 2, none⟩ = some (.string ⟨#[100, 101, 108, 116, 97]⟩)) (fun _ h => h.1) _ _ _ _ ?_
      have hHeld : (fun V => (RcAt V b 2 (tx : Int) (pg : Int) a n c ∧ Below w.heap.size w V) ∧ V.cell? ⟨gg, 2, none⟩ = some (.string ⟨#[100, 101, 108, 116, 97]⟩)) X := ⟨hHeld, hw⟩
      clear hw
      refine wpAnyH_take (i := 5) (v := ?v27) rfl (by kernel_rfl) (by kernel_rfl) (by kernel_rfl) (fun _ _ _ h => h) (Or.inl ⟨by kernel_rfl, ?h27⟩) hHeld ?_
      case h27 => intro u hSw; (try dsimp only at hSw); go_simp; try with_reducible rfl
      try simp only [List.getElem_toArray]
      try simp only [List.getElem_cons_succ]
      try simp only [List.getElem_cons_zero]
      try simp only [Act.put]
      try simp only [List.setIfInBounds_toArray]
      try simp only [List.set]
      refine wpAnyH_take (i := 6) (v := ?v28) rfl (by kernel_rfl) (by kernel_rfl) (by kernel_rfl) (fun _ _ _ h => h) (Or.inl ⟨by kernel_rfl, ?h28⟩) hHeld ?_
      case h28 => intro u hSw; obtain ⟨_, cw⟩ := hSw; go_simp; try with_reducible rfl
      try simp only [List.getElem_toArray]
      try simp only [List.getElem_cons_succ]
      try simp only [List.getElem_cons_zero]
      try simp only [Act.put]
      try simp only [List.setIfInBounds_toArray]
      try simp only [List.set]
      refine wpAnyH_take (i := 7) (v := ?v29) rfl (by kernel_rfl) (by kernel_rfl) (by kernel_rfl) (fun _ _ _ h => h) (Or.inl ⟨by kernel_rfl, ?h29⟩) hHeld ?_
      case h29 => intro u hSw; (try dsimp only at hSw); go_simp; try with_reducible rfl
      try simp only [List.getElem_toArray]
      try simp only [List.getElem_cons_succ]
      try simp only [List.getElem_cons_zero]
      try simp only [Act.put]
      try simp only [List.setIfInBounds_toArray]
      try simp only [List.set]
      refine wpAnyH_ready (rs := [12]) (by kernel_rfl) (by simp) ?_
      refine AllReadyH.cons rfl (fun K hK => ?_) AllReadyH.nil
      go_simp
      go_wp2_with (go_at_call 62; refine (l1Digits_any tx htx _).mono ?_; rintro e w7 ⟨rfl, hb⟩)
      refine hK.out _ _ (⟨⟨hHeld.1.1.up hb, hHeld.1.2.trans (hb.mono hHeld.1.2.size)⟩, cellUp hb hHeld.2⟩) (fun hHeld => ?_)
      clear hK K
      clear hb
      try simp only [Act.put]
      try simp only [List.setIfInBounds_toArray]
      try simp only [List.set]
      refine wpAnyH_take (i := 13) (v := ?v30) rfl (by kernel_rfl) (by kernel_rfl) (by kernel_rfl) (fun _ _ _ h => h) (Or.inl ⟨by kernel_rfl, ?h30⟩) hHeld ?_
      case h30 => intro u hSw; (try dsimp only at hSw); go_simp; try with_reducible rfl
      try simp only [List.getElem_toArray]
      try simp only [List.getElem_cons_succ]
      try simp only [List.getElem_cons_zero]
      try simp only [Act.put]
      try simp only [List.setIfInBounds_toArray]
      try simp only [List.set]
      refine wpAnyH_take (i := 14) (v := ?v31) rfl (by kernel_rfl) (by kernel_rfl) (by kernel_rfl) (fun _ _ _ h => h) (Or.inl ⟨by kernel_rfl, ?h31⟩) hHeld ?_
      case h31 => intro u hSw; (try dsimp only at hSw); go_simp; try with_reducible rfl
      try simp only [List.getElem_toArray]
      try simp only [List.getElem_cons_succ]
      try simp only [List.getElem_cons_zero]
      try simp only [Act.put]
      try simp only [List.setIfInBounds_toArray]
      try simp only [List.set]
      refine wpAnyH_done (by kernel_rfl) ?_ _
      go_wp2_with fail
      go_meet
      exact ⟨rfl, hHeld.1.2⟩
    · go_simp
      go_wp2_with (go_at_call 62; refine (l1Digits_any tx htx _).mono ?_; rintro e w7 ⟨rfl, hb⟩)
      refine hK.out _ _ (⟨hHeld.1.up hb, hHeld.2.trans (hb.mono hHeld.2.size)⟩) (fun hHeld => ?_)
      clear hK K hb
      try simp only [Act.put]
      try simp only [List.setIfInBounds_toArray]
      try simp only [List.set]
      refine wpAnyH_ready (rs := [0]) (by kernel_rfl) (by simp) ?_
      refine AllReadyH.cons rfl (fun K hK => ?_) AllReadyH.nil
      go_simp
      have gb : ∀ o, Below w7.heap.size w7 (w7.alloc o) := fun o => by go_grown
      refine hK.out _ _ (⟨hHeld.1.up (gb _), hHeld.2.trans ((gb _).mono hHeld.2.size)⟩) (fun hHeld => ?_)
      clear hK K gb
      try simp only [Act.put]
      try simp only [List.setIfInBounds_toArray]
      try simp only [List.set]
      have hw : (w7.alloc (.cells #[.string ⟨#[]⟩, .string ⟨#[98, 101, 103, 105, 110]⟩, .string ⟨#[100, 101, 108, 116, 97]⟩, .string ⟨#[99, 111, 109, 112]⟩, .string ⟨#[105, 109, 97, 103, 101]⟩, .string ⟨#[99, 111, 109, 109, 105, 116]⟩, .string ⟨#[97, 98, 111, 114, 116]⟩] 9)).cell? ⟨w7.heap.size, 2, none⟩ = some (.string ⟨#[100, 101, 108, 116, 97]⟩) := by simp [go_sem]
      generalize w7.alloc (.cells #[.string ⟨#[]⟩, .string ⟨#[98, 101, 103, 105, 110]⟩, .string ⟨#[100, 101, 108, 116, 97]⟩, .string ⟨#[99, 111, 109, 112]⟩, .string ⟨#[105, 109, 97, 103, 101]⟩, .string ⟨#[99, 111, 109, 109, 105, 116]⟩, .string ⟨#[97, 98, 111, 114, 116]⟩] 9) = X at hw hHeld ⊢
      generalize w7.heap.size = gg at hw ⊢
      refine wpAnyH_up (S' := fun V => (RcAt V b 2 (tx : Int) (pg : Int) a n c ∧ Below w.heap.size w V) ∧ V.cell? ⟨gg, 2, none⟩ = some (.string ⟨#[100, 101, 108, 116, 97]⟩)) (fun _ h => h.1) _ _ _ _ ?_
      have hHeld : (fun V => (RcAt V b 2 (tx : Int) (pg : Int) a n c ∧ Below w.heap.size w V) ∧ V.cell? ⟨gg, 2, none⟩ = some (.string ⟨#[100, 101, 108, 116, 97]⟩)) X := ⟨hHeld, hw⟩
      clear hw
      refine wpAnyH_take (i := 5) (v := ?v32) rfl (by kernel_rfl) (by kernel_rfl) (by kernel_rfl) (fun _ _ _ h => h) (Or.inl ⟨by kernel_rfl, ?h32⟩) hHeld ?_
      case h32 => intro u hSw; (try dsimp only at hSw); go_simp; try with_reducible rfl
      try simp only [List.getElem_toArray]
      try simp only [List.getElem_cons_succ]
      try simp only [List.getElem_cons_zero]
      try simp only [Act.put]
      try simp only [List.setIfInBounds_toArray]
      try simp only [List.set]
      refine wpAnyH_take (i := 6) (v := ?v33) rfl (by kernel_rfl) (by kernel_rfl) (by kernel_rfl) (fun _ _ _ h => h) (Or.inl ⟨by kernel_rfl, ?h33⟩) hHeld ?_
      case h33 => intro u hSw; obtain ⟨_, cw⟩ := hSw; go_simp; try with_reducible rfl
      try simp only [List.getElem_toArray]
      try simp only [List.getElem_cons_succ]
      try simp only [List.getElem_cons_zero]
      try simp only [Act.put]
      try simp only [List.setIfInBounds_toArray]
      try simp only [List.set]
      refine wpAnyH_take (i := 7) (v := ?v34) rfl (by kernel_rfl) (by kernel_rfl) (by kernel_rfl) (fun _ _ _ h => h) (Or.inl ⟨by kernel_rfl, ?h34⟩) hHeld ?_
      case h34 => intro u hSw; (try dsimp only at hSw); go_simp; try with_reducible rfl
      try simp only [List.getElem_toArray]
      try simp only [List.getElem_cons_succ]
      try simp only [List.getElem_cons_zero]
      try simp only [Act.put]
      try simp only [List.setIfInBounds_toArray]
      try simp only [List.set]
      refine wpAnyH_take (i := 13) (v := ?v35) rfl (by kernel_rfl) (by kernel_rfl) (by kernel_rfl) (fun _ _ _ h => h) (Or.inl ⟨by kernel_rfl, ?h35⟩) hHeld ?_
      case h35 => intro u hSw; (try dsimp only at hSw); go_simp; try with_reducible rfl
      try simp only [List.getElem_toArray]
      try simp only [List.getElem_cons_succ]
      try simp only [List.getElem_cons_zero]
      try simp only [Act.put]
      try simp only [List.setIfInBounds_toArray]
      try simp only [List.set]
      refine wpAnyH_take (i := 14) (v := ?v36) rfl (by kernel_rfl) (by kernel_rfl) (by kernel_rfl) (fun _ _ _ h => h) (Or.inl ⟨by kernel_rfl, ?h36⟩) hHeld ?_
      case h36 => intro u hSw; (try dsimp only at hSw); go_simp; try with_reducible rfl
      try simp only [List.getElem_toArray]
      try simp only [List.getElem_cons_succ]
      try simp only [List.getElem_cons_zero]
      try simp only [Act.put]
      try simp only [List.setIfInBounds_toArray]
      try simp only [List.set]
      refine wpAnyH_done (by kernel_rfl) ?_ _
      go_wp2_with fail
      go_meet
      exact ⟨rfl, hHeld.1.2⟩
  case rest =>
    obtain ⟨rfl, g⟩ := hcut
    obtain ⟨c0, c1, c2, c3⟩ := HH.out.up g
    go_wp2_with fail
    refine (l4Runs_any 2 _).mono ?_
    rintro e w' ⟨rfl, hw'⟩
    subst w'
    rw [show inR 2 2 4 = true from rfl]
    go_wp2_with fail
    have HRe : Hid (RunsRead wc a n P A C Z) := HR.out.below g (Nat.le_refl _)
    go_loopw [5, 4] (fun i s wr => ∃ j : Nat, j ≤ n ∧ i = .int .i64 j ∧ s = .int .i64 (took Z j) ∧ wr = wc) (fun i _ _ => n - (intOf i).toNat)
    case atStart => exact ⟨0, Nat.zero_le _, rfl, rfl, rfl⟩
    case round =>
      obtain ⟨j, hj, rfl, rfl, rfl⟩ := hrel
      by_cases hlt : j < n
      · obtain ⟨b0, off, rfl, hc⟩ := HRe.out.resolve_left (by omega)
        obtain ⟨e0, e1, _⟩ := hc j hlt
        have hjn : (j : Int) < (n : Int) := by omega
        have ht := HTk.out j hlt
        have HS : Hid (took Z (j + 1) = took Z j + (Z j).length) := rfl
        obtain ⟨l, hl⟩ : ∃ l, l = (Z j).length := ⟨_, rfl⟩
        obtain ⟨t, htv⟩ : ∃ t, t = took Z j := ⟨_, rfl⟩
        rw [← hl] at e1 ht HS
        rw [← htv] at ht HS ⊢
        clear hl htv hc e0
        go_wp2_with fail
        go_roundw
        case rel => exact ⟨j + 1, by omega, by go_num, by rw [HS.out]; rfl, trivial⟩
        case measure => simp [intOf]; omega
      · have e : j = n := by omega
        subst e
        have HE : Hid (∀ s, s = took Z j → ⟨#[100, 101, 108, 116, 97]⟩ ++ ⟨#[32]⟩ ++ decS tx ++ ⟨#[32]⟩ ++ decS pg ++ ⟨#[32]⟩ ++ decS s = txtS ⟨#[100, 101, 108, 116, 97]⟩ (three tx pg (took Z j)) 3) := fun s hs => by rw [hs]; exact txtS_3 _ _ _ _
        obtain ⟨s, hs⟩ : ∃ s, s = took Z j := ⟨_, rfl⟩
        have HE := HE.out s hs
        have HE : Hid (_ = _) := HE
        rw [← hs] at htk ⊢
        clear hs HTk HRe
        obtain ⟨T, hTv⟩ : ∃ T : ByteArray, T = ⟨#[100, 101, 108, 116, 97]⟩ ++ ⟨#[32]⟩ ++ decS tx := ⟨_, rfl⟩
        have hT : T.size ≤ 40 := by rw [hTv]; simp only [ByteArray.size_append]; have : (ByteArray.mk #[32]).size = 1 := rfl; have : (⟨#[100, 101, 108, 116, 97]⟩ : ByteArray).size ≤ 10 := by decide
                                    omega
        rw [← hTv] at HE ⊢
        clear hTv
        have hs1 := decS_size pg hpg
        have hs2 := decS_size s htk
        have z1 : ¬ 9223372036854775807 < T.size + 1 := by omega
        have z2 : ¬ 9223372036854775807 < T.size + 1 + (decS pg).size := by omega
        have z3 : ¬ 9223372036854775807 < T.size + 1 + (decS pg).size + 1 := by omega
        have z4 : ¬ 9223372036854775807 < T.size + 1 + (decS pg).size + 1 + (decS s).size := by omega
        go_wp2_with fail
        refine (l1Digits_any pg hpg _).mono ?_
        rintro e w8 ⟨rfl, hb⟩
        have g := g.trans (hb.mono g.size)
        clear hb
        go_wp2_with fail
        refine (l1Digits_any s htk _).mono ?_
        rintro e w9 ⟨rfl, hb⟩
        have g := g.trans (hb.mono g.size)
        clear hb
        go_wp2_with fail
        go_ret
        exact ⟨congrArg (fun x => Ending.returned (.string x)) HE.out, g⟩

set_option maxHeartbeats 2000000 in
theorem l4Text_3 (b tx pg : Nat) (a : Option Addr) (n c : Nat) (P : Nat → Int) (A : Nat → Option Addr) (C : Nat → Nat) (Z : Nat → List Int) (w : World) (hm : n + took Z n ≤ 1048576) (hr : RunsRead w a n P A C Z) (h : RcAt w b 3 (tx : Int) (pg : Int) a n c) (htx : tx < 1000000) (hpg : pg < 1000000) (htk : took Z n < 1000000) :
    Calls Tryd.prog 39 #[.pointer (some ⟨b, 0, none⟩)] w fun e w' => e = .returned (.string (txtS ⟨#[99, 111, 109, 112]⟩ (three tx pg (took Z n)) 3)) ∧ Below w.heap.size w w' := by
  have HR : Hid (RunsRead w a n P A C Z) := hr
  have HH : Hid (RcAt w b 3 (tx : Int) (pg : Int) a n c) := h
  have HTk : Hid (∀ j, j < n → took Z j + (Z j).length ≤ 1048576) := fun j hj => by
    have h := took_mono Z (j + 1) n hj
    simp only [took] at h
    omega
  have hsz := decS_size tx htx
  have z0 : ¬ 9223372036854775807 < 5 + (decS tx).size := by omega
  clear hr h
  go_enter Tryd.func39, Tryd.ntmps39
  go_upto_region 1 with (fail)
  go_cut [3] from 6 (fun s3 wc => s3 = .string (⟨#[99, 111, 109, 112]⟩ ++ ⟨#[32]⟩ ++ decS tx) ∧ Below w.heap.size w wc)
  case first =>
    have gd : Below w.heap.size w w.drew := (Below.refl _ _).drew
    refine wp_region_held_drew (S := fun V => RcAt V b 3 (tx : Int) (pg : Int) a n c ∧ Below w.heap.size w V) (by kernel_rfl) ⟨HH.out.up gd, gd⟩ (fun hHeld => ?_)
    generalize w.drew = D at hHeld ⊢
    clear gd
    refine wpAnyH_take (i := 1) (v := ?v37) rfl (by kernel_rfl) (by kernel_rfl) (by kernel_rfl) (fun _ _ _ h => h) (Or.inl ⟨by kernel_rfl, ?h37⟩) hHeld ?_
    case h37 => intro u hSw; (try dsimp only at hSw); go_simp; try with_reducible rfl
    try simp only [List.getElem_toArray]
    try simp only [List.getElem_cons_succ]
    try simp only [List.getElem_cons_zero]
    try simp only [Act.put]
    try simp only [List.setIfInBounds_toArray]
    try simp only [List.set]
    refine wpAnyH_take (i := 2) (v := ?v38) rfl (by kernel_rfl) (by kernel_rfl) (by kernel_rfl) (fun _ _ _ h => h) (Or.inl ⟨by kernel_rfl, ?h38⟩) hHeld ?_
    case h38 => intro u hSw; (try dsimp only at hSw); go_simp; try with_reducible rfl
    try simp only [List.getElem_toArray]
    try simp only [List.getElem_cons_succ]
    try simp only [List.getElem_cons_zero]
    try simp only [Act.put]
    try simp only [List.setIfInBounds_toArray]
    try simp only [List.set]
    refine wpAnyH_take (i := 3) (v := ?v39) rfl (by kernel_rfl) (by kernel_rfl) (by kernel_rfl) (fun _ _ _ h => h) (Or.inl ⟨by kernel_rfl, ?h39⟩) hHeld ?_
    case h39 => intro u hSw; (try dsimp only at hSw); go_simp; try with_reducible rfl
    try simp only [List.getElem_toArray]
    try simp only [List.getElem_cons_succ]
    try simp only [List.getElem_cons_zero]
    try simp only [Act.put]
    try simp only [List.setIfInBounds_toArray]
    try simp only [List.set]
    refine wpAnyH_take (i := 4) (v := ?v40) rfl (by kernel_rfl) (by kernel_rfl) (by kernel_rfl) (fun _ _ _ h => h) (Or.inl ⟨by kernel_rfl, ?h40⟩) hHeld ?_
    case h40 => intro u hSw; obtain ⟨⟨c0, c1, c2, c3⟩, _⟩ := hSw; go_simp; try with_reducible rfl
    try simp only [List.getElem_toArray]
    try simp only [List.getElem_cons_succ]
    try simp only [List.getElem_cons_zero]
    try simp only [Act.put]
    try simp only [List.setIfInBounds_toArray]
    try simp only [List.set]
    refine wpAnyH_take (i := 8) (v := ?v41) rfl (by kernel_rfl) (by kernel_rfl) (by kernel_rfl) (fun _ _ _ h => h) (Or.inl ⟨by kernel_rfl, ?h41⟩) hHeld ?_
    case h41 => intro u hSw; (try dsimp only at hSw); go_simp; try with_reducible rfl
    try simp only [List.getElem_toArray]
    try simp only [List.getElem_cons_succ]
    try simp only [List.getElem_cons_zero]
    try simp only [Act.put]
    try simp only [List.setIfInBounds_toArray]
    try simp only [List.set]
    refine wpAnyH_take (i := 9) (v := ?v42) rfl (by kernel_rfl) (by kernel_rfl) (by kernel_rfl) (fun _ _ _ h => h) (Or.inl ⟨by kernel_rfl, ?h42⟩) hHeld ?_
    case h42 => intro u hSw; (try dsimp only at hSw); go_simp; try with_reducible rfl
    try simp only [List.getElem_toArray]
    try simp only [List.getElem_cons_succ]
    try simp only [List.getElem_cons_zero]
    try simp only [Act.put]
    try simp only [List.setIfInBounds_toArray]
    try simp only [List.set]
    refine wpAnyH_take (i := 10) (v := ?v43) rfl (by kernel_rfl) (by kernel_rfl) (by kernel_rfl) (fun _ _ _ h => h) (Or.inl ⟨by kernel_rfl, ?h43⟩) hHeld ?_
    case h43 => intro u hSw; (try dsimp only at hSw); go_simp; try with_reducible rfl
    try simp only [List.getElem_toArray]
    try simp only [List.getElem_cons_succ]
    try simp only [List.getElem_cons_zero]
    try simp only [Act.put]
    try simp only [List.setIfInBounds_toArray]
    try simp only [List.set]
    refine wpAnyH_take (i := 11) (v := ?v44) rfl (by kernel_rfl) (by kernel_rfl) (by kernel_rfl) (fun _ _ _ h => h) (Or.inl ⟨by kernel_rfl, ?h44⟩) hHeld ?_
    case h44 => intro u hSw; obtain ⟨⟨c0, c1, c2, c3⟩, _⟩ := hSw; go_simp; try with_reducible rfl
    try simp only [List.getElem_toArray]
    try simp only [List.getElem_cons_succ]
    try simp only [List.getElem_cons_zero]
    try simp only [Act.put]
    try simp only [List.setIfInBounds_toArray]
    try simp only [List.set]
    refine wpAnyH_ready (rs := [0, 12]) (by kernel_rfl) (by simp) ?_
    refine AllReadyH.cons rfl (fun K hK => ?_) (AllReadyH.cons rfl (fun K hK => ?_) AllReadyH.nil)
    · go_simp
      have gb : ∀ o, Below D.heap.size D (D.alloc o) := fun o => by go_grown
      refine hK.out _ _ (⟨hHeld.1.up (gb _), hHeld.2.trans ((gb _).mono hHeld.2.size)⟩) (fun hHeld => ?_)
      clear hK K gb
      try simp only [Act.put]
      try simp only [List.setIfInBounds_toArray]
      try simp only [List.set]
      have hw : (D.alloc (.cells #[.string ⟨#[]⟩, .string ⟨#[98, 101, 103, 105, 110]⟩, .string ⟨#[100, 101, 108, 116, 97]⟩, .string ⟨#[99, 111, 109, 112]⟩, .string ⟨#[105, 109, 97, 103, 101]⟩, .string ⟨#[99, 111, 109, 109, 105, 116]⟩, .string ⟨#[97, 98, 111, 114, 116]⟩] 9)).cell? ⟨D.heap.size, 3, none⟩ = some (.string ⟨#[99, 111, 109, 112]⟩) := by simp [go_sem]
      generalize D.alloc (.cells #[.string ⟨#[]⟩, .string ⟨#[98, 101, 103, 105, 110]⟩, .string ⟨#[100, 101, 108, 116, 97]⟩, .string ⟨#[99, 111, 109, 112]⟩, .string ⟨#[105, 109, 97, 103, 101]⟩, .string ⟨#[99, 111, 109, 109, 105, 116]⟩, .string ⟨#[97, 98, 111, 114, 116]⟩] 9) = X at hw hHeld ⊢
      generalize D.heap.size = gg at hw ⊢
      refine wpAnyH_up (S' := fun V => (RcAt V b 3 (tx : Int) (pg : Int) a n c ∧ Below w.heap.size w V) ∧ V.cell? ⟨gg, 3, none⟩ = some (.string ⟨#[99, 111, 109, 112]⟩)) (fun _ h => h.1) _ _ _ _ ?_
      have hHeld : (fun V => (RcAt V b 3 (tx : Int) (pg : Int) a n c ∧ Below w.heap.size w V) ∧ V.cell? ⟨gg, 3, none⟩ = some (.string ⟨#[99, 111, 109, 112]⟩)) X := ⟨hHeld, hw⟩
      clear hw
      refine wpAnyH_take (i := 5) (v := ?v45) rfl (by kernel_rfl) (by kernel_rfl) (by kernel_rfl) (fun _ _ _ h => h) (Or.inl ⟨by kernel_rfl, ?h45⟩) hHeld ?_
      case h45 => intro u hSw; (try dsimp only at hSw); go_simp; try with_reducible rfl
      try simp only [List.getElem_toArray]
      try simp only [List.getElem_cons_succ]
      try simp only [List.getElem_cons_zero]
      try simp only [Act.put]
      try simp only [List.setIfInBounds_toArray]
      try simp only [List.set]
      refine wpAnyH_take (i := 6) (v := ?v46) rfl (by kernel_rfl) (by kernel_rfl) (by kernel_rfl) (fun _ _ _ h => h) (Or.inl ⟨by kernel_rfl, ?h46⟩) hHeld ?_
      case h46 => intro u hSw; obtain ⟨_, cw⟩ := hSw; go_simp; try with_reducible rfl
      try simp only [List.getElem_toArray]
      try simp only [List.getElem_cons_succ]
      try simp only [List.getElem_cons_zero]
      try simp only [Act.put]
      try simp only [List.setIfInBounds_toArray]
      try simp only [List.set]
      refine wpAnyH_take (i := 7) (v := ?v47) rfl (by kernel_rfl) (by kernel_rfl) (by kernel_rfl) (fun _ _ _ h => h) (Or.inl ⟨by kernel_rfl, ?h47⟩) hHeld ?_
      case h47 => intro u hSw; (try dsimp only at hSw); go_simp; try with_reducible rfl
      try simp only [List.getElem_toArray]
      try simp only [List.getElem_cons_succ]
      try simp only [List.getElem_cons_zero]
      try simp only [Act.put]
      try simp only [List.setIfInBounds_toArray]
      try simp only [List.set]
      refine wpAnyH_ready (rs := [12]) (by kernel_rfl) (by simp) ?_
      refine AllReadyH.cons rfl (fun K hK => ?_) AllReadyH.nil
      go_simp
      go_wp2_with (go_at_call 62; refine (l1Digits_any tx htx _).mono ?_; rintro e w7 ⟨rfl, hb⟩)
      refine hK.out _ _ (⟨⟨hHeld.1.1.up hb, hHeld.1.2.trans (hb.mono hHeld.1.2.size)⟩, cellUp hb hHeld.2⟩) (fun hHeld => ?_)
      clear hK K
      clear hb
      try simp only [Act.put]
      try simp only [List.setIfInBounds_toArray]
      try simp only [List.set]
      refine wpAnyH_take (i := 13) (v := ?v48) rfl (by kernel_rfl) (by kernel_rfl) (by kernel_rfl) (fun _ _ _ h => h) (Or.inl ⟨by kernel_rfl, ?h48⟩) hHeld ?_
      case h48 => intro u hSw; (try dsimp only at hSw); go_simp; try with_reducible rfl
      try simp only [List.getElem_toArray]
      try simp only [List.getElem_cons_succ]
      try simp only [List.getElem_cons_zero]
      try simp only [Act.put]
      try simp only [List.setIfInBounds_toArray]
      try simp only [List.set]
      refine wpAnyH_take (i := 14) (v := ?v49) rfl (by kernel_rfl) (by kernel_rfl) (by kernel_rfl) (fun _ _ _ h => h) (Or.inl ⟨by kernel_rfl, ?h49⟩) hHeld ?_
      case h49 => intro u hSw; (try dsimp only at hSw); go_simp; try with_reducible rfl
      try simp only [List.getElem_toArray]
      try simp only [List.getElem_cons_succ]
      try simp only [List.getElem_cons_zero]
      try simp only [Act.put]
      try simp only [List.setIfInBounds_toArray]
      try simp only [List.set]
      refine wpAnyH_done (by kernel_rfl) ?_ _
      go_wp2_with fail
      go_meet
      exact ⟨rfl, hHeld.1.2⟩
    · go_simp
      go_wp2_with (go_at_call 62; refine (l1Digits_any tx htx _).mono ?_; rintro e w7 ⟨rfl, hb⟩)
      refine hK.out _ _ (⟨hHeld.1.up hb, hHeld.2.trans (hb.mono hHeld.2.size)⟩) (fun hHeld => ?_)
      clear hK K hb
      try simp only [Act.put]
      try simp only [List.setIfInBounds_toArray]
      try simp only [List.set]
      refine wpAnyH_ready (rs := [0]) (by kernel_rfl) (by simp) ?_
      refine AllReadyH.cons rfl (fun K hK => ?_) AllReadyH.nil
      go_simp
      have gb : ∀ o, Below w7.heap.size w7 (w7.alloc o) := fun o => by go_grown
      refine hK.out _ _ (⟨hHeld.1.up (gb _), hHeld.2.trans ((gb _).mono hHeld.2.size)⟩) (fun hHeld => ?_)
      clear hK K gb
      try simp only [Act.put]
      try simp only [List.setIfInBounds_toArray]
      try simp only [List.set]
      have hw : (w7.alloc (.cells #[.string ⟨#[]⟩, .string ⟨#[98, 101, 103, 105, 110]⟩, .string ⟨#[100, 101, 108, 116, 97]⟩, .string ⟨#[99, 111, 109, 112]⟩, .string ⟨#[105, 109, 97, 103, 101]⟩, .string ⟨#[99, 111, 109, 109, 105, 116]⟩, .string ⟨#[97, 98, 111, 114, 116]⟩] 9)).cell? ⟨w7.heap.size, 3, none⟩ = some (.string ⟨#[99, 111, 109, 112]⟩) := by simp [go_sem]
      generalize w7.alloc (.cells #[.string ⟨#[]⟩, .string ⟨#[98, 101, 103, 105, 110]⟩, .string ⟨#[100, 101, 108, 116, 97]⟩, .string ⟨#[99, 111, 109, 112]⟩, .string ⟨#[105, 109, 97, 103, 101]⟩, .string ⟨#[99, 111, 109, 109, 105, 116]⟩, .string ⟨#[97, 98, 111, 114, 116]⟩] 9) = X at hw hHeld ⊢
      generalize w7.heap.size = gg at hw ⊢
      refine wpAnyH_up (S' := fun V => (RcAt V b 3 (tx : Int) (pg : Int) a n c ∧ Below w.heap.size w V) ∧ V.cell? ⟨gg, 3, none⟩ = some (.string ⟨#[99, 111, 109, 112]⟩)) (fun _ h => h.1) _ _ _ _ ?_
      have hHeld : (fun V => (RcAt V b 3 (tx : Int) (pg : Int) a n c ∧ Below w.heap.size w V) ∧ V.cell? ⟨gg, 3, none⟩ = some (.string ⟨#[99, 111, 109, 112]⟩)) X := ⟨hHeld, hw⟩
      clear hw
      refine wpAnyH_take (i := 5) (v := ?v50) rfl (by kernel_rfl) (by kernel_rfl) (by kernel_rfl) (fun _ _ _ h => h) (Or.inl ⟨by kernel_rfl, ?h50⟩) hHeld ?_
      case h50 => intro u hSw; (try dsimp only at hSw); go_simp; try with_reducible rfl
      try simp only [List.getElem_toArray]
      try simp only [List.getElem_cons_succ]
      try simp only [List.getElem_cons_zero]
      try simp only [Act.put]
      try simp only [List.setIfInBounds_toArray]
      try simp only [List.set]
      refine wpAnyH_take (i := 6) (v := ?v51) rfl (by kernel_rfl) (by kernel_rfl) (by kernel_rfl) (fun _ _ _ h => h) (Or.inl ⟨by kernel_rfl, ?h51⟩) hHeld ?_
      case h51 => intro u hSw; obtain ⟨_, cw⟩ := hSw; go_simp; try with_reducible rfl
      try simp only [List.getElem_toArray]
      try simp only [List.getElem_cons_succ]
      try simp only [List.getElem_cons_zero]
      try simp only [Act.put]
      try simp only [List.setIfInBounds_toArray]
      try simp only [List.set]
      refine wpAnyH_take (i := 7) (v := ?v52) rfl (by kernel_rfl) (by kernel_rfl) (by kernel_rfl) (fun _ _ _ h => h) (Or.inl ⟨by kernel_rfl, ?h52⟩) hHeld ?_
      case h52 => intro u hSw; (try dsimp only at hSw); go_simp; try with_reducible rfl
      try simp only [List.getElem_toArray]
      try simp only [List.getElem_cons_succ]
      try simp only [List.getElem_cons_zero]
      try simp only [Act.put]
      try simp only [List.setIfInBounds_toArray]
      try simp only [List.set]
      refine wpAnyH_take (i := 13) (v := ?v53) rfl (by kernel_rfl) (by kernel_rfl) (by kernel_rfl) (fun _ _ _ h => h) (Or.inl ⟨by kernel_rfl, ?h53⟩) hHeld ?_
      case h53 => intro u hSw; (try dsimp only at hSw); go_simp; try with_reducible rfl
      try simp only [List.getElem_toArray]
      try simp only [List.getElem_cons_succ]
      try simp only [List.getElem_cons_zero]
      try simp only [Act.put]
      try simp only [List.setIfInBounds_toArray]
      try simp only [List.set]
      refine wpAnyH_take (i := 14) (v := ?v54) rfl (by kernel_rfl) (by kernel_rfl) (by kernel_rfl) (fun _ _ _ h => h) (Or.inl ⟨by kernel_rfl, ?h54⟩) hHeld ?_
      case h54 => intro u hSw; (try dsimp only at hSw); go_simp; try with_reducible rfl
      try simp only [List.getElem_toArray]
      try simp only [List.getElem_cons_succ]
      try simp only [List.getElem_cons_zero]
      try simp only [Act.put]
      try simp only [List.setIfInBounds_toArray]
      try simp only [List.set]
      refine wpAnyH_done (by kernel_rfl) ?_ _
      go_wp2_with fail
      go_meet
      exact ⟨rfl, hHeld.1.2⟩
  case rest =>
    obtain ⟨rfl, g⟩ := hcut
    obtain ⟨c0, c1, c2, c3⟩ := HH.out.up g
    go_wp2_with fail
    refine (l4Runs_any 3 _).mono ?_
    rintro e w' ⟨rfl, hw'⟩
    subst w'
    rw [show inR 3 2 4 = true from rfl]
    go_wp2_with fail
    have HRe : Hid (RunsRead wc a n P A C Z) := HR.out.below g (Nat.le_refl _)
    go_loopw [5, 4] (fun i s wr => ∃ j : Nat, j ≤ n ∧ i = .int .i64 j ∧ s = .int .i64 (took Z j) ∧ wr = wc) (fun i _ _ => n - (intOf i).toNat)
    case atStart => exact ⟨0, Nat.zero_le _, rfl, rfl, rfl⟩
    case round =>
      obtain ⟨j, hj, rfl, rfl, rfl⟩ := hrel
      by_cases hlt : j < n
      · obtain ⟨b0, off, rfl, hc⟩ := HRe.out.resolve_left (by omega)
        obtain ⟨e0, e1, _⟩ := hc j hlt
        have hjn : (j : Int) < (n : Int) := by omega
        have ht := HTk.out j hlt
        have HS : Hid (took Z (j + 1) = took Z j + (Z j).length) := rfl
        obtain ⟨l, hl⟩ : ∃ l, l = (Z j).length := ⟨_, rfl⟩
        obtain ⟨t, htv⟩ : ∃ t, t = took Z j := ⟨_, rfl⟩
        rw [← hl] at e1 ht HS
        rw [← htv] at ht HS ⊢
        clear hl htv hc e0
        go_wp2_with fail
        go_roundw
        case rel => exact ⟨j + 1, by omega, by go_num, by rw [HS.out]; rfl, trivial⟩
        case measure => simp [intOf]; omega
      · have e : j = n := by omega
        subst e
        have HE : Hid (∀ s, s = took Z j → ⟨#[99, 111, 109, 112]⟩ ++ ⟨#[32]⟩ ++ decS tx ++ ⟨#[32]⟩ ++ decS pg ++ ⟨#[32]⟩ ++ decS s = txtS ⟨#[99, 111, 109, 112]⟩ (three tx pg (took Z j)) 3) := fun s hs => by rw [hs]; exact txtS_3 _ _ _ _
        obtain ⟨s, hs⟩ : ∃ s, s = took Z j := ⟨_, rfl⟩
        have HE := HE.out s hs
        have HE : Hid (_ = _) := HE
        rw [← hs] at htk ⊢
        clear hs HTk HRe
        obtain ⟨T, hTv⟩ : ∃ T : ByteArray, T = ⟨#[99, 111, 109, 112]⟩ ++ ⟨#[32]⟩ ++ decS tx := ⟨_, rfl⟩
        have hT : T.size ≤ 40 := by rw [hTv]; simp only [ByteArray.size_append]; have : (ByteArray.mk #[32]).size = 1 := rfl; have : (⟨#[99, 111, 109, 112]⟩ : ByteArray).size ≤ 10 := by decide
                                    omega
        rw [← hTv] at HE ⊢
        clear hTv
        have hs1 := decS_size pg hpg
        have hs2 := decS_size s htk
        have z1 : ¬ 9223372036854775807 < T.size + 1 := by omega
        have z2 : ¬ 9223372036854775807 < T.size + 1 + (decS pg).size := by omega
        have z3 : ¬ 9223372036854775807 < T.size + 1 + (decS pg).size + 1 := by omega
        have z4 : ¬ 9223372036854775807 < T.size + 1 + (decS pg).size + 1 + (decS s).size := by omega
        go_wp2_with fail
        refine (l1Digits_any pg hpg _).mono ?_
        rintro e w8 ⟨rfl, hb⟩
        have g := g.trans (hb.mono g.size)
        clear hb
        go_wp2_with fail
        refine (l1Digits_any s htk _).mono ?_
        rintro e w9 ⟨rfl, hb⟩
        have g := g.trans (hb.mono g.size)
        clear hb
        go_wp2_with fail
        go_ret
        exact ⟨congrArg (fun x => Ending.returned (.string x)) HE.out, g⟩

set_option maxHeartbeats 2000000 in
theorem l4Text_4 (b tx pg : Nat) (a : Option Addr) (n c : Nat) (P : Nat → Int) (A : Nat → Option Addr) (C : Nat → Nat) (Z : Nat → List Int) (w : World) (hm : n + took Z n ≤ 1048576) (hr : RunsRead w a n P A C Z) (h : RcAt w b 4 (tx : Int) (pg : Int) a n c) (htx : tx < 1000000) (hpg : pg < 1000000) (htk : took Z n < 1000000) :
    Calls Tryd.prog 39 #[.pointer (some ⟨b, 0, none⟩)] w fun e w' => e = .returned (.string (txtS ⟨#[105, 109, 97, 103, 101]⟩ (three tx pg (took Z n)) 3)) ∧ Below w.heap.size w w' := by
  have HR : Hid (RunsRead w a n P A C Z) := hr
  have HH : Hid (RcAt w b 4 (tx : Int) (pg : Int) a n c) := h
  have HTk : Hid (∀ j, j < n → took Z j + (Z j).length ≤ 1048576) := fun j hj => by
    have h := took_mono Z (j + 1) n hj
    simp only [took] at h
    omega
  have hsz := decS_size tx htx
  have z0 : ¬ 9223372036854775807 < 6 + (decS tx).size := by omega
  clear hr h
  go_enter Tryd.func39, Tryd.ntmps39
  go_upto_region 1 with (fail)
  go_cut [3] from 6 (fun s3 wc => s3 = .string (⟨#[105, 109, 97, 103, 101]⟩ ++ ⟨#[32]⟩ ++ decS tx) ∧ Below w.heap.size w wc)
  case first =>
    have gd : Below w.heap.size w w.drew := (Below.refl _ _).drew
    refine wp_region_held_drew (S := fun V => RcAt V b 4 (tx : Int) (pg : Int) a n c ∧ Below w.heap.size w V) (by kernel_rfl) ⟨HH.out.up gd, gd⟩ (fun hHeld => ?_)
    generalize w.drew = D at hHeld ⊢
    clear gd
    refine wpAnyH_take (i := 1) (v := ?v55) rfl (by kernel_rfl) (by kernel_rfl) (by kernel_rfl) (fun _ _ _ h => h) (Or.inl ⟨by kernel_rfl, ?h55⟩) hHeld ?_
    case h55 => intro u hSw; (try dsimp only at hSw); go_simp; try with_reducible rfl
    try simp only [List.getElem_toArray]
    try simp only [List.getElem_cons_succ]
    try simp only [List.getElem_cons_zero]
    try simp only [Act.put]
    try simp only [List.setIfInBounds_toArray]
    try simp only [List.set]
    refine wpAnyH_take (i := 2) (v := ?v56) rfl (by kernel_rfl) (by kernel_rfl) (by kernel_rfl) (fun _ _ _ h => h) (Or.inl ⟨by kernel_rfl, ?h56⟩) hHeld ?_
    case h56 => intro u hSw; (try dsimp only at hSw); go_simp; try with_reducible rfl
    try simp only [List.getElem_toArray]
    try simp only [List.getElem_cons_succ]
    try simp only [List.getElem_cons_zero]
    try simp only [Act.put]
    try simp only [List.setIfInBounds_toArray]
    try simp only [List.set]
    refine wpAnyH_take (i := 3) (v := ?v57) rfl (by kernel_rfl) (by kernel_rfl) (by kernel_rfl) (fun _ _ _ h => h) (Or.inl ⟨by kernel_rfl, ?h57⟩) hHeld ?_
    case h57 => intro u hSw; (try dsimp only at hSw); go_simp; try with_reducible rfl
    try simp only [List.getElem_toArray]
    try simp only [List.getElem_cons_succ]
    try simp only [List.getElem_cons_zero]
    try simp only [Act.put]
    try simp only [List.setIfInBounds_toArray]
    try simp only [List.set]
    refine wpAnyH_take (i := 4) (v := ?v58) rfl (by kernel_rfl) (by kernel_rfl) (by kernel_rfl) (fun _ _ _ h => h) (Or.inl ⟨by kernel_rfl, ?h58⟩) hHeld ?_
    case h58 => intro u hSw; obtain ⟨⟨c0, c1, c2, c3⟩, _⟩ := hSw; go_simp; try with_reducible rfl
    try simp only [List.getElem_toArray]
    try simp only [List.getElem_cons_succ]
    try simp only [List.getElem_cons_zero]
    try simp only [Act.put]
    try simp only [List.setIfInBounds_toArray]
    try simp only [List.set]
    refine wpAnyH_take (i := 8) (v := ?v59) rfl (by kernel_rfl) (by kernel_rfl) (by kernel_rfl) (fun _ _ _ h => h) (Or.inl ⟨by kernel_rfl, ?h59⟩) hHeld ?_
    case h59 => intro u hSw; (try dsimp only at hSw); go_simp; try with_reducible rfl
    try simp only [List.getElem_toArray]
    try simp only [List.getElem_cons_succ]
    try simp only [List.getElem_cons_zero]
    try simp only [Act.put]
    try simp only [List.setIfInBounds_toArray]
    try simp only [List.set]
    refine wpAnyH_take (i := 9) (v := ?v60) rfl (by kernel_rfl) (by kernel_rfl) (by kernel_rfl) (fun _ _ _ h => h) (Or.inl ⟨by kernel_rfl, ?h60⟩) hHeld ?_
    case h60 => intro u hSw; (try dsimp only at hSw); go_simp; try with_reducible rfl
    try simp only [List.getElem_toArray]
    try simp only [List.getElem_cons_succ]
    try simp only [List.getElem_cons_zero]
    try simp only [Act.put]
    try simp only [List.setIfInBounds_toArray]
    try simp only [List.set]
    refine wpAnyH_take (i := 10) (v := ?v61) rfl (by kernel_rfl) (by kernel_rfl) (by kernel_rfl) (fun _ _ _ h => h) (Or.inl ⟨by kernel_rfl, ?h61⟩) hHeld ?_
    case h61 => intro u hSw; (try dsimp only at hSw); go_simp; try with_reducible rfl
    try simp only [List.getElem_toArray]
    try simp only [List.getElem_cons_succ]
    try simp only [List.getElem_cons_zero]
    try simp only [Act.put]
    try simp only [List.setIfInBounds_toArray]
    try simp only [List.set]
    refine wpAnyH_take (i := 11) (v := ?v62) rfl (by kernel_rfl) (by kernel_rfl) (by kernel_rfl) (fun _ _ _ h => h) (Or.inl ⟨by kernel_rfl, ?h62⟩) hHeld ?_
    case h62 => intro u hSw; obtain ⟨⟨c0, c1, c2, c3⟩, _⟩ := hSw; go_simp; try with_reducible rfl
    try simp only [List.getElem_toArray]
    try simp only [List.getElem_cons_succ]
    try simp only [List.getElem_cons_zero]
    try simp only [Act.put]
    try simp only [List.setIfInBounds_toArray]
    try simp only [List.set]
    refine wpAnyH_ready (rs := [0, 12]) (by kernel_rfl) (by simp) ?_
    refine AllReadyH.cons rfl (fun K hK => ?_) (AllReadyH.cons rfl (fun K hK => ?_) AllReadyH.nil)
    · go_simp
      have gb : ∀ o, Below D.heap.size D (D.alloc o) := fun o => by go_grown
      refine hK.out _ _ (⟨hHeld.1.up (gb _), hHeld.2.trans ((gb _).mono hHeld.2.size)⟩) (fun hHeld => ?_)
      clear hK K gb
      try simp only [Act.put]
      try simp only [List.setIfInBounds_toArray]
      try simp only [List.set]
      have hw : (D.alloc (.cells #[.string ⟨#[]⟩, .string ⟨#[98, 101, 103, 105, 110]⟩, .string ⟨#[100, 101, 108, 116, 97]⟩, .string ⟨#[99, 111, 109, 112]⟩, .string ⟨#[105, 109, 97, 103, 101]⟩, .string ⟨#[99, 111, 109, 109, 105, 116]⟩, .string ⟨#[97, 98, 111, 114, 116]⟩] 9)).cell? ⟨D.heap.size, 4, none⟩ = some (.string ⟨#[105, 109, 97, 103, 101]⟩) := by simp [go_sem]
      generalize D.alloc (.cells #[.string ⟨#[]⟩, .string ⟨#[98, 101, 103, 105, 110]⟩, .string ⟨#[100, 101, 108, 116, 97]⟩, .string ⟨#[99, 111, 109, 112]⟩, .string ⟨#[105, 109, 97, 103, 101]⟩, .string ⟨#[99, 111, 109, 109, 105, 116]⟩, .string ⟨#[97, 98, 111, 114, 116]⟩] 9) = X at hw hHeld ⊢
      generalize D.heap.size = gg at hw ⊢
      refine wpAnyH_up (S' := fun V => (RcAt V b 4 (tx : Int) (pg : Int) a n c ∧ Below w.heap.size w V) ∧ V.cell? ⟨gg, 4, none⟩ = some (.string ⟨#[105, 109, 97, 103, 101]⟩)) (fun _ h => h.1) _ _ _ _ ?_
      have hHeld : (fun V => (RcAt V b 4 (tx : Int) (pg : Int) a n c ∧ Below w.heap.size w V) ∧ V.cell? ⟨gg, 4, none⟩ = some (.string ⟨#[105, 109, 97, 103, 101]⟩)) X := ⟨hHeld, hw⟩
      clear hw
      refine wpAnyH_take (i := 5) (v := ?v63) rfl (by kernel_rfl) (by kernel_rfl) (by kernel_rfl) (fun _ _ _ h => h) (Or.inl ⟨by kernel_rfl, ?h63⟩) hHeld ?_
      case h63 => intro u hSw; (try dsimp only at hSw); go_simp; try with_reducible rfl
      try simp only [List.getElem_toArray]
      try simp only [List.getElem_cons_succ]
      try simp only [List.getElem_cons_zero]
      try simp only [Act.put]
      try simp only [List.setIfInBounds_toArray]
      try simp only [List.set]
      refine wpAnyH_take (i := 6) (v := ?v64) rfl (by kernel_rfl) (by kernel_rfl) (by kernel_rfl) (fun _ _ _ h => h) (Or.inl ⟨by kernel_rfl, ?h64⟩) hHeld ?_
      case h64 => intro u hSw; obtain ⟨_, cw⟩ := hSw; go_simp; try with_reducible rfl
      try simp only [List.getElem_toArray]
      try simp only [List.getElem_cons_succ]
      try simp only [List.getElem_cons_zero]
      try simp only [Act.put]
      try simp only [List.setIfInBounds_toArray]
      try simp only [List.set]
      refine wpAnyH_take (i := 7) (v := ?v65) rfl (by kernel_rfl) (by kernel_rfl) (by kernel_rfl) (fun _ _ _ h => h) (Or.inl ⟨by kernel_rfl, ?h65⟩) hHeld ?_
      case h65 => intro u hSw; (try dsimp only at hSw); go_simp; try with_reducible rfl
      try simp only [List.getElem_toArray]
      try simp only [List.getElem_cons_succ]
      try simp only [List.getElem_cons_zero]
      try simp only [Act.put]
      try simp only [List.setIfInBounds_toArray]
      try simp only [List.set]
      refine wpAnyH_ready (rs := [12]) (by kernel_rfl) (by simp) ?_
      refine AllReadyH.cons rfl (fun K hK => ?_) AllReadyH.nil
      go_simp
      go_wp2_with (go_at_call 62; refine (l1Digits_any tx htx _).mono ?_; rintro e w7 ⟨rfl, hb⟩)
      refine hK.out _ _ (⟨⟨hHeld.1.1.up hb, hHeld.1.2.trans (hb.mono hHeld.1.2.size)⟩, cellUp hb hHeld.2⟩) (fun hHeld => ?_)
      clear hK K
      clear hb
      try simp only [Act.put]
      try simp only [List.setIfInBounds_toArray]
      try simp only [List.set]
      refine wpAnyH_take (i := 13) (v := ?v66) rfl (by kernel_rfl) (by kernel_rfl) (by kernel_rfl) (fun _ _ _ h => h) (Or.inl ⟨by kernel_rfl, ?h66⟩) hHeld ?_
      case h66 => intro u hSw; (try dsimp only at hSw); go_simp; try with_reducible rfl
      try simp only [List.getElem_toArray]
      try simp only [List.getElem_cons_succ]
      try simp only [List.getElem_cons_zero]
      try simp only [Act.put]
      try simp only [List.setIfInBounds_toArray]
      try simp only [List.set]
      refine wpAnyH_take (i := 14) (v := ?v67) rfl (by kernel_rfl) (by kernel_rfl) (by kernel_rfl) (fun _ _ _ h => h) (Or.inl ⟨by kernel_rfl, ?h67⟩) hHeld ?_
      case h67 => intro u hSw; (try dsimp only at hSw); go_simp; try with_reducible rfl
      try simp only [List.getElem_toArray]
      try simp only [List.getElem_cons_succ]
      try simp only [List.getElem_cons_zero]
      try simp only [Act.put]
      try simp only [List.setIfInBounds_toArray]
      try simp only [List.set]
      refine wpAnyH_done (by kernel_rfl) ?_ _
      go_wp2_with fail
      go_meet
      exact ⟨rfl, hHeld.1.2⟩
    · go_simp
      go_wp2_with (go_at_call 62; refine (l1Digits_any tx htx _).mono ?_; rintro e w7 ⟨rfl, hb⟩)
      refine hK.out _ _ (⟨hHeld.1.up hb, hHeld.2.trans (hb.mono hHeld.2.size)⟩) (fun hHeld => ?_)
      clear hK K hb
      try simp only [Act.put]
      try simp only [List.setIfInBounds_toArray]
      try simp only [List.set]
      refine wpAnyH_ready (rs := [0]) (by kernel_rfl) (by simp) ?_
      refine AllReadyH.cons rfl (fun K hK => ?_) AllReadyH.nil
      go_simp
      have gb : ∀ o, Below w7.heap.size w7 (w7.alloc o) := fun o => by go_grown
      refine hK.out _ _ (⟨hHeld.1.up (gb _), hHeld.2.trans ((gb _).mono hHeld.2.size)⟩) (fun hHeld => ?_)
      clear hK K gb
      try simp only [Act.put]
      try simp only [List.setIfInBounds_toArray]
      try simp only [List.set]
      have hw : (w7.alloc (.cells #[.string ⟨#[]⟩, .string ⟨#[98, 101, 103, 105, 110]⟩, .string ⟨#[100, 101, 108, 116, 97]⟩, .string ⟨#[99, 111, 109, 112]⟩, .string ⟨#[105, 109, 97, 103, 101]⟩, .string ⟨#[99, 111, 109, 109, 105, 116]⟩, .string ⟨#[97, 98, 111, 114, 116]⟩] 9)).cell? ⟨w7.heap.size, 4, none⟩ = some (.string ⟨#[105, 109, 97, 103, 101]⟩) := by simp [go_sem]
      generalize w7.alloc (.cells #[.string ⟨#[]⟩, .string ⟨#[98, 101, 103, 105, 110]⟩, .string ⟨#[100, 101, 108, 116, 97]⟩, .string ⟨#[99, 111, 109, 112]⟩, .string ⟨#[105, 109, 97, 103, 101]⟩, .string ⟨#[99, 111, 109, 109, 105, 116]⟩, .string ⟨#[97, 98, 111, 114, 116]⟩] 9) = X at hw hHeld ⊢
      generalize w7.heap.size = gg at hw ⊢
      refine wpAnyH_up (S' := fun V => (RcAt V b 4 (tx : Int) (pg : Int) a n c ∧ Below w.heap.size w V) ∧ V.cell? ⟨gg, 4, none⟩ = some (.string ⟨#[105, 109, 97, 103, 101]⟩)) (fun _ h => h.1) _ _ _ _ ?_
      have hHeld : (fun V => (RcAt V b 4 (tx : Int) (pg : Int) a n c ∧ Below w.heap.size w V) ∧ V.cell? ⟨gg, 4, none⟩ = some (.string ⟨#[105, 109, 97, 103, 101]⟩)) X := ⟨hHeld, hw⟩
      clear hw
      refine wpAnyH_take (i := 5) (v := ?v68) rfl (by kernel_rfl) (by kernel_rfl) (by kernel_rfl) (fun _ _ _ h => h) (Or.inl ⟨by kernel_rfl, ?h68⟩) hHeld ?_
      case h68 => intro u hSw; (try dsimp only at hSw); go_simp; try with_reducible rfl
      try simp only [List.getElem_toArray]
      try simp only [List.getElem_cons_succ]
      try simp only [List.getElem_cons_zero]
      try simp only [Act.put]
      try simp only [List.setIfInBounds_toArray]
      try simp only [List.set]
      refine wpAnyH_take (i := 6) (v := ?v69) rfl (by kernel_rfl) (by kernel_rfl) (by kernel_rfl) (fun _ _ _ h => h) (Or.inl ⟨by kernel_rfl, ?h69⟩) hHeld ?_
      case h69 => intro u hSw; obtain ⟨_, cw⟩ := hSw; go_simp; try with_reducible rfl
      try simp only [List.getElem_toArray]
      try simp only [List.getElem_cons_succ]
      try simp only [List.getElem_cons_zero]
      try simp only [Act.put]
      try simp only [List.setIfInBounds_toArray]
      try simp only [List.set]
      refine wpAnyH_take (i := 7) (v := ?v70) rfl (by kernel_rfl) (by kernel_rfl) (by kernel_rfl) (fun _ _ _ h => h) (Or.inl ⟨by kernel_rfl, ?h70⟩) hHeld ?_
      case h70 => intro u hSw; (try dsimp only at hSw); go_simp; try with_reducible rfl
      try simp only [List.getElem_toArray]
      try simp only [List.getElem_cons_succ]
      try simp only [List.getElem_cons_zero]
      try simp only [Act.put]
      try simp only [List.setIfInBounds_toArray]
      try simp only [List.set]
      refine wpAnyH_take (i := 13) (v := ?v71) rfl (by kernel_rfl) (by kernel_rfl) (by kernel_rfl) (fun _ _ _ h => h) (Or.inl ⟨by kernel_rfl, ?h71⟩) hHeld ?_
      case h71 => intro u hSw; (try dsimp only at hSw); go_simp; try with_reducible rfl
      try simp only [List.getElem_toArray]
      try simp only [List.getElem_cons_succ]
      try simp only [List.getElem_cons_zero]
      try simp only [Act.put]
      try simp only [List.setIfInBounds_toArray]
      try simp only [List.set]
      refine wpAnyH_take (i := 14) (v := ?v72) rfl (by kernel_rfl) (by kernel_rfl) (by kernel_rfl) (fun _ _ _ h => h) (Or.inl ⟨by kernel_rfl, ?h72⟩) hHeld ?_
      case h72 => intro u hSw; (try dsimp only at hSw); go_simp; try with_reducible rfl
      try simp only [List.getElem_toArray]
      try simp only [List.getElem_cons_succ]
      try simp only [List.getElem_cons_zero]
      try simp only [Act.put]
      try simp only [List.setIfInBounds_toArray]
      try simp only [List.set]
      refine wpAnyH_done (by kernel_rfl) ?_ _
      go_wp2_with fail
      go_meet
      exact ⟨rfl, hHeld.1.2⟩
  case rest =>
    obtain ⟨rfl, g⟩ := hcut
    obtain ⟨c0, c1, c2, c3⟩ := HH.out.up g
    go_wp2_with fail
    refine (l4Runs_any 4 _).mono ?_
    rintro e w' ⟨rfl, hw'⟩
    subst w'
    rw [show inR 4 2 4 = true from rfl]
    go_wp2_with fail
    have HRe : Hid (RunsRead wc a n P A C Z) := HR.out.below g (Nat.le_refl _)
    go_loopw [5, 4] (fun i s wr => ∃ j : Nat, j ≤ n ∧ i = .int .i64 j ∧ s = .int .i64 (took Z j) ∧ wr = wc) (fun i _ _ => n - (intOf i).toNat)
    case atStart => exact ⟨0, Nat.zero_le _, rfl, rfl, rfl⟩
    case round =>
      obtain ⟨j, hj, rfl, rfl, rfl⟩ := hrel
      by_cases hlt : j < n
      · obtain ⟨b0, off, rfl, hc⟩ := HRe.out.resolve_left (by omega)
        obtain ⟨e0, e1, _⟩ := hc j hlt
        have hjn : (j : Int) < (n : Int) := by omega
        have ht := HTk.out j hlt
        have HS : Hid (took Z (j + 1) = took Z j + (Z j).length) := rfl
        obtain ⟨l, hl⟩ : ∃ l, l = (Z j).length := ⟨_, rfl⟩
        obtain ⟨t, htv⟩ : ∃ t, t = took Z j := ⟨_, rfl⟩
        rw [← hl] at e1 ht HS
        rw [← htv] at ht HS ⊢
        clear hl htv hc e0
        go_wp2_with fail
        go_roundw
        case rel => exact ⟨j + 1, by omega, by go_num, by rw [HS.out]; rfl, trivial⟩
        case measure => simp [intOf]; omega
      · have e : j = n := by omega
        subst e
        have HE : Hid (∀ s, s = took Z j → ⟨#[105, 109, 97, 103, 101]⟩ ++ ⟨#[32]⟩ ++ decS tx ++ ⟨#[32]⟩ ++ decS pg ++ ⟨#[32]⟩ ++ decS s = txtS ⟨#[105, 109, 97, 103, 101]⟩ (three tx pg (took Z j)) 3) := fun s hs => by rw [hs]; exact txtS_3 _ _ _ _
        obtain ⟨s, hs⟩ : ∃ s, s = took Z j := ⟨_, rfl⟩
        have HE := HE.out s hs
        have HE : Hid (_ = _) := HE
        rw [← hs] at htk ⊢
        clear hs HTk HRe
        obtain ⟨T, hTv⟩ : ∃ T : ByteArray, T = ⟨#[105, 109, 97, 103, 101]⟩ ++ ⟨#[32]⟩ ++ decS tx := ⟨_, rfl⟩
        have hT : T.size ≤ 40 := by rw [hTv]; simp only [ByteArray.size_append]; have : (ByteArray.mk #[32]).size = 1 := rfl; have : (⟨#[105, 109, 97, 103, 101]⟩ : ByteArray).size ≤ 10 := by decide
                                    omega
        rw [← hTv] at HE ⊢
        clear hTv
        have hs1 := decS_size pg hpg
        have hs2 := decS_size s htk
        have z1 : ¬ 9223372036854775807 < T.size + 1 := by omega
        have z2 : ¬ 9223372036854775807 < T.size + 1 + (decS pg).size := by omega
        have z3 : ¬ 9223372036854775807 < T.size + 1 + (decS pg).size + 1 := by omega
        have z4 : ¬ 9223372036854775807 < T.size + 1 + (decS pg).size + 1 + (decS s).size := by omega
        go_wp2_with fail
        refine (l1Digits_any pg hpg _).mono ?_
        rintro e w8 ⟨rfl, hb⟩
        have g := g.trans (hb.mono g.size)
        clear hb
        go_wp2_with fail
        refine (l1Digits_any s htk _).mono ?_
        rintro e w9 ⟨rfl, hb⟩
        have g := g.trans (hb.mono g.size)
        clear hb
        go_wp2_with fail
        go_ret
        exact ⟨congrArg (fun x => Ending.returned (.string x)) HE.out, g⟩

set_option maxHeartbeats 2000000 in
theorem l4Text_5 (b tx pg : Nat) (a : Option Addr) (n c : Nat) (P : Nat → Int) (A : Nat → Option Addr) (C : Nat → Nat) (Z : Nat → List Int) (w : World) (hm : n + took Z n ≤ 1048576) (hr : RunsRead w a n P A C Z) (h : RcAt w b 5 (tx : Int) (pg : Int) a n c) (htx : tx < 1000000) (hpg : pg < 1000000) (htk : took Z n < 1000000) :
    Calls Tryd.prog 39 #[.pointer (some ⟨b, 0, none⟩)] w fun e w' => e = .returned (.string (txtS ⟨#[99, 111, 109, 109, 105, 116]⟩ (one tx) 1)) ∧ Below w.heap.size w w' := by
  have HR : Hid (RunsRead w a n P A C Z) := hr
  have HH : Hid (RcAt w b 5 (tx : Int) (pg : Int) a n c) := h
  have HTk : Hid (∀ j, j < n → took Z j + (Z j).length ≤ 1048576) := fun j hj => by
    have h := took_mono Z (j + 1) n hj
    simp only [took] at h
    omega
  have hsz := decS_size tx htx
  have z0 : ¬ 9223372036854775807 < 7 + (decS tx).size := by omega
  clear hr h
  go_enter Tryd.func39, Tryd.ntmps39
  go_upto_region 1 with (fail)
  go_cut [3] from 6 (fun s3 wc => s3 = .string (⟨#[99, 111, 109, 109, 105, 116]⟩ ++ ⟨#[32]⟩ ++ decS tx) ∧ Below w.heap.size w wc)
  case first =>
    have gd : Below w.heap.size w w.drew := (Below.refl _ _).drew
    refine wp_region_held_drew (S := fun V => RcAt V b 5 (tx : Int) (pg : Int) a n c ∧ Below w.heap.size w V) (by kernel_rfl) ⟨HH.out.up gd, gd⟩ (fun hHeld => ?_)
    generalize w.drew = D at hHeld ⊢
    clear gd
    refine wpAnyH_take (i := 1) (v := ?v73) rfl (by kernel_rfl) (by kernel_rfl) (by kernel_rfl) (fun _ _ _ h => h) (Or.inl ⟨by kernel_rfl, ?h73⟩) hHeld ?_
    case h73 => intro u hSw; (try dsimp only at hSw); go_simp; try with_reducible rfl
    try simp only [List.getElem_toArray]
    try simp only [List.getElem_cons_succ]
    try simp only [List.getElem_cons_zero]
    try simp only [Act.put]
    try simp only [List.setIfInBounds_toArray]
    try simp only [List.set]
    refine wpAnyH_take (i := 2) (v := ?v74) rfl (by kernel_rfl) (by kernel_rfl) (by kernel_rfl) (fun _ _ _ h => h) (Or.inl ⟨by kernel_rfl, ?h74⟩) hHeld ?_
    case h74 => intro u hSw; (try dsimp only at hSw); go_simp; try with_reducible rfl
    try simp only [List.getElem_toArray]
    try simp only [List.getElem_cons_succ]
    try simp only [List.getElem_cons_zero]
    try simp only [Act.put]
    try simp only [List.setIfInBounds_toArray]
    try simp only [List.set]
    refine wpAnyH_take (i := 3) (v := ?v75) rfl (by kernel_rfl) (by kernel_rfl) (by kernel_rfl) (fun _ _ _ h => h) (Or.inl ⟨by kernel_rfl, ?h75⟩) hHeld ?_
    case h75 => intro u hSw; (try dsimp only at hSw); go_simp; try with_reducible rfl
    try simp only [List.getElem_toArray]
    try simp only [List.getElem_cons_succ]
    try simp only [List.getElem_cons_zero]
    try simp only [Act.put]
    try simp only [List.setIfInBounds_toArray]
    try simp only [List.set]
    refine wpAnyH_take (i := 4) (v := ?v76) rfl (by kernel_rfl) (by kernel_rfl) (by kernel_rfl) (fun _ _ _ h => h) (Or.inl ⟨by kernel_rfl, ?h76⟩) hHeld ?_
    case h76 => intro u hSw; obtain ⟨⟨c0, c1, c2, c3⟩, _⟩ := hSw; go_simp; try with_reducible rfl
    try simp only [List.getElem_toArray]
    try simp only [List.getElem_cons_succ]
    try simp only [List.getElem_cons_zero]
    try simp only [Act.put]
    try simp only [List.setIfInBounds_toArray]
    try simp only [List.set]
    refine wpAnyH_take (i := 8) (v := ?v77) rfl (by kernel_rfl) (by kernel_rfl) (by kernel_rfl) (fun _ _ _ h => h) (Or.inl ⟨by kernel_rfl, ?h77⟩) hHeld ?_
    case h77 => intro u hSw; (try dsimp only at hSw); go_simp; try with_reducible rfl
    try simp only [List.getElem_toArray]
    try simp only [List.getElem_cons_succ]
    try simp only [List.getElem_cons_zero]
    try simp only [Act.put]
    try simp only [List.setIfInBounds_toArray]
    try simp only [List.set]
    refine wpAnyH_take (i := 9) (v := ?v78) rfl (by kernel_rfl) (by kernel_rfl) (by kernel_rfl) (fun _ _ _ h => h) (Or.inl ⟨by kernel_rfl, ?h78⟩) hHeld ?_
    case h78 => intro u hSw; (try dsimp only at hSw); go_simp; try with_reducible rfl
    try simp only [List.getElem_toArray]
    try simp only [List.getElem_cons_succ]
    try simp only [List.getElem_cons_zero]
    try simp only [Act.put]
    try simp only [List.setIfInBounds_toArray]
    try simp only [List.set]
    refine wpAnyH_take (i := 10) (v := ?v79) rfl (by kernel_rfl) (by kernel_rfl) (by kernel_rfl) (fun _ _ _ h => h) (Or.inl ⟨by kernel_rfl, ?h79⟩) hHeld ?_
    case h79 => intro u hSw; (try dsimp only at hSw); go_simp; try with_reducible rfl
    try simp only [List.getElem_toArray]
    try simp only [List.getElem_cons_succ]
    try simp only [List.getElem_cons_zero]
    try simp only [Act.put]
    try simp only [List.setIfInBounds_toArray]
    try simp only [List.set]
    refine wpAnyH_take (i := 11) (v := ?v80) rfl (by kernel_rfl) (by kernel_rfl) (by kernel_rfl) (fun _ _ _ h => h) (Or.inl ⟨by kernel_rfl, ?h80⟩) hHeld ?_
    case h80 => intro u hSw; obtain ⟨⟨c0, c1, c2, c3⟩, _⟩ := hSw; go_simp; try with_reducible rfl
    try simp only [List.getElem_toArray]
    try simp only [List.getElem_cons_succ]
    try simp only [List.getElem_cons_zero]
    try simp only [Act.put]
    try simp only [List.setIfInBounds_toArray]
    try simp only [List.set]
    refine wpAnyH_ready (rs := [0, 12]) (by kernel_rfl) (by simp) ?_
    refine AllReadyH.cons rfl (fun K hK => ?_) (AllReadyH.cons rfl (fun K hK => ?_) AllReadyH.nil)
    · go_simp
      have gb : ∀ o, Below D.heap.size D (D.alloc o) := fun o => by go_grown
      refine hK.out _ _ (⟨hHeld.1.up (gb _), hHeld.2.trans ((gb _).mono hHeld.2.size)⟩) (fun hHeld => ?_)
      clear hK K gb
      try simp only [Act.put]
      try simp only [List.setIfInBounds_toArray]
      try simp only [List.set]
      have hw : (D.alloc (.cells #[.string ⟨#[]⟩, .string ⟨#[98, 101, 103, 105, 110]⟩, .string ⟨#[100, 101, 108, 116, 97]⟩, .string ⟨#[99, 111, 109, 112]⟩, .string ⟨#[105, 109, 97, 103, 101]⟩, .string ⟨#[99, 111, 109, 109, 105, 116]⟩, .string ⟨#[97, 98, 111, 114, 116]⟩] 9)).cell? ⟨D.heap.size, 5, none⟩ = some (.string ⟨#[99, 111, 109, 109, 105, 116]⟩) := by simp [go_sem]
      generalize D.alloc (.cells #[.string ⟨#[]⟩, .string ⟨#[98, 101, 103, 105, 110]⟩, .string ⟨#[100, 101, 108, 116, 97]⟩, .string ⟨#[99, 111, 109, 112]⟩, .string ⟨#[105, 109, 97, 103, 101]⟩, .string ⟨#[99, 111, 109, 109, 105, 116]⟩, .string ⟨#[97, 98, 111, 114, 116]⟩] 9) = X at hw hHeld ⊢
      generalize D.heap.size = gg at hw ⊢
      refine wpAnyH_up (S' := fun V => (RcAt V b 5 (tx : Int) (pg : Int) a n c ∧ Below w.heap.size w V) ∧ V.cell? ⟨gg, 5, none⟩ = some (.string ⟨#[99, 111, 109, 109, 105, 116]⟩)) (fun _ h => h.1) _ _ _ _ ?_
      have hHeld : (fun V => (RcAt V b 5 (tx : Int) (pg : Int) a n c ∧ Below w.heap.size w V) ∧ V.cell? ⟨gg, 5, none⟩ = some (.string ⟨#[99, 111, 109, 109, 105, 116]⟩)) X := ⟨hHeld, hw⟩
      clear hw
      refine wpAnyH_take (i := 5) (v := ?v81) rfl (by kernel_rfl) (by kernel_rfl) (by kernel_rfl) (fun _ _ _ h => h) (Or.inl ⟨by kernel_rfl, ?h81⟩) hHeld ?_
      case h81 => intro u hSw; (try dsimp only at hSw); go_simp; try with_reducible rfl
      try simp only [List.getElem_toArray]
      try simp only [List.getElem_cons_succ]
      try simp only [List.getElem_cons_zero]
      try simp only [Act.put]
      try simp only [List.setIfInBounds_toArray]
      try simp only [List.set]
      refine wpAnyH_take (i := 6) (v := ?v82) rfl (by kernel_rfl) (by kernel_rfl) (by kernel_rfl) (fun _ _ _ h => h) (Or.inl ⟨by kernel_rfl, ?h82⟩) hHeld ?_
      case h82 => intro u hSw; obtain ⟨_, cw⟩ := hSw; go_simp; try with_reducible rfl
      try simp only [List.getElem_toArray]
      try simp only [List.getElem_cons_succ]
      try simp only [List.getElem_cons_zero]
      try simp only [Act.put]
      try simp only [List.setIfInBounds_toArray]
      try simp only [List.set]
      refine wpAnyH_take (i := 7) (v := ?v83) rfl (by kernel_rfl) (by kernel_rfl) (by kernel_rfl) (fun _ _ _ h => h) (Or.inl ⟨by kernel_rfl, ?h83⟩) hHeld ?_
      case h83 => intro u hSw; (try dsimp only at hSw); go_simp; try with_reducible rfl
      try simp only [List.getElem_toArray]
      try simp only [List.getElem_cons_succ]
      try simp only [List.getElem_cons_zero]
      try simp only [Act.put]
      try simp only [List.setIfInBounds_toArray]
      try simp only [List.set]
      refine wpAnyH_ready (rs := [12]) (by kernel_rfl) (by simp) ?_
      refine AllReadyH.cons rfl (fun K hK => ?_) AllReadyH.nil
      go_simp
      go_wp2_with (go_at_call 62; refine (l1Digits_any tx htx _).mono ?_; rintro e w7 ⟨rfl, hb⟩)
      refine hK.out _ _ (⟨⟨hHeld.1.1.up hb, hHeld.1.2.trans (hb.mono hHeld.1.2.size)⟩, cellUp hb hHeld.2⟩) (fun hHeld => ?_)
      clear hK K
      clear hb
      try simp only [Act.put]
      try simp only [List.setIfInBounds_toArray]
      try simp only [List.set]
      refine wpAnyH_take (i := 13) (v := ?v84) rfl (by kernel_rfl) (by kernel_rfl) (by kernel_rfl) (fun _ _ _ h => h) (Or.inl ⟨by kernel_rfl, ?h84⟩) hHeld ?_
      case h84 => intro u hSw; (try dsimp only at hSw); go_simp; try with_reducible rfl
      try simp only [List.getElem_toArray]
      try simp only [List.getElem_cons_succ]
      try simp only [List.getElem_cons_zero]
      try simp only [Act.put]
      try simp only [List.setIfInBounds_toArray]
      try simp only [List.set]
      refine wpAnyH_take (i := 14) (v := ?v85) rfl (by kernel_rfl) (by kernel_rfl) (by kernel_rfl) (fun _ _ _ h => h) (Or.inl ⟨by kernel_rfl, ?h85⟩) hHeld ?_
      case h85 => intro u hSw; (try dsimp only at hSw); go_simp; try with_reducible rfl
      try simp only [List.getElem_toArray]
      try simp only [List.getElem_cons_succ]
      try simp only [List.getElem_cons_zero]
      try simp only [Act.put]
      try simp only [List.setIfInBounds_toArray]
      try simp only [List.set]
      refine wpAnyH_done (by kernel_rfl) ?_ _
      go_wp2_with fail
      go_meet
      exact ⟨rfl, hHeld.1.2⟩
    · go_simp
      go_wp2_with (go_at_call 62; refine (l1Digits_any tx htx _).mono ?_; rintro e w7 ⟨rfl, hb⟩)
      refine hK.out _ _ (⟨hHeld.1.up hb, hHeld.2.trans (hb.mono hHeld.2.size)⟩) (fun hHeld => ?_)
      clear hK K hb
      try simp only [Act.put]
      try simp only [List.setIfInBounds_toArray]
      try simp only [List.set]
      refine wpAnyH_ready (rs := [0]) (by kernel_rfl) (by simp) ?_
      refine AllReadyH.cons rfl (fun K hK => ?_) AllReadyH.nil
      go_simp
      have gb : ∀ o, Below w7.heap.size w7 (w7.alloc o) := fun o => by go_grown
      refine hK.out _ _ (⟨hHeld.1.up (gb _), hHeld.2.trans ((gb _).mono hHeld.2.size)⟩) (fun hHeld => ?_)
      clear hK K gb
      try simp only [Act.put]
      try simp only [List.setIfInBounds_toArray]
      try simp only [List.set]
      have hw : (w7.alloc (.cells #[.string ⟨#[]⟩, .string ⟨#[98, 101, 103, 105, 110]⟩, .string ⟨#[100, 101, 108, 116, 97]⟩, .string ⟨#[99, 111, 109, 112]⟩, .string ⟨#[105, 109, 97, 103, 101]⟩, .string ⟨#[99, 111, 109, 109, 105, 116]⟩, .string ⟨#[97, 98, 111, 114, 116]⟩] 9)).cell? ⟨w7.heap.size, 5, none⟩ = some (.string ⟨#[99, 111, 109, 109, 105, 116]⟩) := by simp [go_sem]
      generalize w7.alloc (.cells #[.string ⟨#[]⟩, .string ⟨#[98, 101, 103, 105, 110]⟩, .string ⟨#[100, 101, 108, 116, 97]⟩, .string ⟨#[99, 111, 109, 112]⟩, .string ⟨#[105, 109, 97, 103, 101]⟩, .string ⟨#[99, 111, 109, 109, 105, 116]⟩, .string ⟨#[97, 98, 111, 114, 116]⟩] 9) = X at hw hHeld ⊢
      generalize w7.heap.size = gg at hw ⊢
      refine wpAnyH_up (S' := fun V => (RcAt V b 5 (tx : Int) (pg : Int) a n c ∧ Below w.heap.size w V) ∧ V.cell? ⟨gg, 5, none⟩ = some (.string ⟨#[99, 111, 109, 109, 105, 116]⟩)) (fun _ h => h.1) _ _ _ _ ?_
      have hHeld : (fun V => (RcAt V b 5 (tx : Int) (pg : Int) a n c ∧ Below w.heap.size w V) ∧ V.cell? ⟨gg, 5, none⟩ = some (.string ⟨#[99, 111, 109, 109, 105, 116]⟩)) X := ⟨hHeld, hw⟩
      clear hw
      refine wpAnyH_take (i := 5) (v := ?v86) rfl (by kernel_rfl) (by kernel_rfl) (by kernel_rfl) (fun _ _ _ h => h) (Or.inl ⟨by kernel_rfl, ?h86⟩) hHeld ?_
      case h86 => intro u hSw; (try dsimp only at hSw); go_simp; try with_reducible rfl
      try simp only [List.getElem_toArray]
      try simp only [List.getElem_cons_succ]
      try simp only [List.getElem_cons_zero]
      try simp only [Act.put]
      try simp only [List.setIfInBounds_toArray]
      try simp only [List.set]
      refine wpAnyH_take (i := 6) (v := ?v87) rfl (by kernel_rfl) (by kernel_rfl) (by kernel_rfl) (fun _ _ _ h => h) (Or.inl ⟨by kernel_rfl, ?h87⟩) hHeld ?_
      case h87 => intro u hSw; obtain ⟨_, cw⟩ := hSw; go_simp; try with_reducible rfl
      try simp only [List.getElem_toArray]
      try simp only [List.getElem_cons_succ]
      try simp only [List.getElem_cons_zero]
      try simp only [Act.put]
      try simp only [List.setIfInBounds_toArray]
      try simp only [List.set]
      refine wpAnyH_take (i := 7) (v := ?v88) rfl (by kernel_rfl) (by kernel_rfl) (by kernel_rfl) (fun _ _ _ h => h) (Or.inl ⟨by kernel_rfl, ?h88⟩) hHeld ?_
      case h88 => intro u hSw; (try dsimp only at hSw); go_simp; try with_reducible rfl
      try simp only [List.getElem_toArray]
      try simp only [List.getElem_cons_succ]
      try simp only [List.getElem_cons_zero]
      try simp only [Act.put]
      try simp only [List.setIfInBounds_toArray]
      try simp only [List.set]
      refine wpAnyH_take (i := 13) (v := ?v89) rfl (by kernel_rfl) (by kernel_rfl) (by kernel_rfl) (fun _ _ _ h => h) (Or.inl ⟨by kernel_rfl, ?h89⟩) hHeld ?_
      case h89 => intro u hSw; (try dsimp only at hSw); go_simp; try with_reducible rfl
      try simp only [List.getElem_toArray]
      try simp only [List.getElem_cons_succ]
      try simp only [List.getElem_cons_zero]
      try simp only [Act.put]
      try simp only [List.setIfInBounds_toArray]
      try simp only [List.set]
      refine wpAnyH_take (i := 14) (v := ?v90) rfl (by kernel_rfl) (by kernel_rfl) (by kernel_rfl) (fun _ _ _ h => h) (Or.inl ⟨by kernel_rfl, ?h90⟩) hHeld ?_
      case h90 => intro u hSw; (try dsimp only at hSw); go_simp; try with_reducible rfl
      try simp only [List.getElem_toArray]
      try simp only [List.getElem_cons_succ]
      try simp only [List.getElem_cons_zero]
      try simp only [Act.put]
      try simp only [List.setIfInBounds_toArray]
      try simp only [List.set]
      refine wpAnyH_done (by kernel_rfl) ?_ _
      go_wp2_with fail
      go_meet
      exact ⟨rfl, hHeld.1.2⟩
  case rest =>
    obtain ⟨rfl, g⟩ := hcut
    obtain ⟨c0, c1, c2, c3⟩ := HH.out.up g
    go_wp2_with fail
    refine (l4Runs_any 5 _).mono ?_
    rintro e w' ⟨rfl, hw'⟩
    subst w'
    rw [show inR 5 2 4 = false from rfl]
    go_wp2_with fail
    go_ret
    exact ⟨congrArg (fun x => Ending.returned (.string x)) (txtS_1 _ _), g⟩

set_option maxHeartbeats 2000000 in
theorem l4Text_6 (b tx pg : Nat) (a : Option Addr) (n c : Nat) (P : Nat → Int) (A : Nat → Option Addr) (C : Nat → Nat) (Z : Nat → List Int) (w : World) (hm : n + took Z n ≤ 1048576) (hr : RunsRead w a n P A C Z) (h : RcAt w b 6 (tx : Int) (pg : Int) a n c) (htx : tx < 1000000) (hpg : pg < 1000000) (htk : took Z n < 1000000) :
    Calls Tryd.prog 39 #[.pointer (some ⟨b, 0, none⟩)] w fun e w' => e = .returned (.string (txtS ⟨#[97, 98, 111, 114, 116]⟩ (one tx) 1)) ∧ Below w.heap.size w w' := by
  have HR : Hid (RunsRead w a n P A C Z) := hr
  have HH : Hid (RcAt w b 6 (tx : Int) (pg : Int) a n c) := h
  have HTk : Hid (∀ j, j < n → took Z j + (Z j).length ≤ 1048576) := fun j hj => by
    have h := took_mono Z (j + 1) n hj
    simp only [took] at h
    omega
  have hsz := decS_size tx htx
  have z0 : ¬ 9223372036854775807 < 6 + (decS tx).size := by omega
  clear hr h
  go_enter Tryd.func39, Tryd.ntmps39
  go_upto_region 1 with (fail)
  go_cut [3] from 6 (fun s3 wc => s3 = .string (⟨#[97, 98, 111, 114, 116]⟩ ++ ⟨#[32]⟩ ++ decS tx) ∧ Below w.heap.size w wc)
  case first =>
    have gd : Below w.heap.size w w.drew := (Below.refl _ _).drew
    refine wp_region_held_drew (S := fun V => RcAt V b 6 (tx : Int) (pg : Int) a n c ∧ Below w.heap.size w V) (by kernel_rfl) ⟨HH.out.up gd, gd⟩ (fun hHeld => ?_)
    generalize w.drew = D at hHeld ⊢
    clear gd
    refine wpAnyH_take (i := 1) (v := ?v91) rfl (by kernel_rfl) (by kernel_rfl) (by kernel_rfl) (fun _ _ _ h => h) (Or.inl ⟨by kernel_rfl, ?h91⟩) hHeld ?_
    case h91 => intro u hSw; (try dsimp only at hSw); go_simp; try with_reducible rfl
    try simp only [List.getElem_toArray]
    try simp only [List.getElem_cons_succ]
    try simp only [List.getElem_cons_zero]
    try simp only [Act.put]
    try simp only [List.setIfInBounds_toArray]
    try simp only [List.set]
    refine wpAnyH_take (i := 2) (v := ?v92) rfl (by kernel_rfl) (by kernel_rfl) (by kernel_rfl) (fun _ _ _ h => h) (Or.inl ⟨by kernel_rfl, ?h92⟩) hHeld ?_
    case h92 => intro u hSw; (try dsimp only at hSw); go_simp; try with_reducible rfl
    try simp only [List.getElem_toArray]
    try simp only [List.getElem_cons_succ]
    try simp only [List.getElem_cons_zero]
    try simp only [Act.put]
    try simp only [List.setIfInBounds_toArray]
    try simp only [List.set]
    refine wpAnyH_take (i := 3) (v := ?v93) rfl (by kernel_rfl) (by kernel_rfl) (by kernel_rfl) (fun _ _ _ h => h) (Or.inl ⟨by kernel_rfl, ?h93⟩) hHeld ?_
    case h93 => intro u hSw; (try dsimp only at hSw); go_simp; try with_reducible rfl
    try simp only [List.getElem_toArray]
    try simp only [List.getElem_cons_succ]
    try simp only [List.getElem_cons_zero]
    try simp only [Act.put]
    try simp only [List.setIfInBounds_toArray]
    try simp only [List.set]
    refine wpAnyH_take (i := 4) (v := ?v94) rfl (by kernel_rfl) (by kernel_rfl) (by kernel_rfl) (fun _ _ _ h => h) (Or.inl ⟨by kernel_rfl, ?h94⟩) hHeld ?_
    case h94 => intro u hSw; obtain ⟨⟨c0, c1, c2, c3⟩, _⟩ := hSw; go_simp; try with_reducible rfl
    try simp only [List.getElem_toArray]
    try simp only [List.getElem_cons_succ]
    try simp only [List.getElem_cons_zero]
    try simp only [Act.put]
    try simp only [List.setIfInBounds_toArray]
    try simp only [List.set]
    refine wpAnyH_take (i := 8) (v := ?v95) rfl (by kernel_rfl) (by kernel_rfl) (by kernel_rfl) (fun _ _ _ h => h) (Or.inl ⟨by kernel_rfl, ?h95⟩) hHeld ?_
    case h95 => intro u hSw; (try dsimp only at hSw); go_simp; try with_reducible rfl
    try simp only [List.getElem_toArray]
    try simp only [List.getElem_cons_succ]
    try simp only [List.getElem_cons_zero]
    try simp only [Act.put]
    try simp only [List.setIfInBounds_toArray]
    try simp only [List.set]
    refine wpAnyH_take (i := 9) (v := ?v96) rfl (by kernel_rfl) (by kernel_rfl) (by kernel_rfl) (fun _ _ _ h => h) (Or.inl ⟨by kernel_rfl, ?h96⟩) hHeld ?_
    case h96 => intro u hSw; (try dsimp only at hSw); go_simp; try with_reducible rfl
    try simp only [List.getElem_toArray]
    try simp only [List.getElem_cons_succ]
    try simp only [List.getElem_cons_zero]
    try simp only [Act.put]
    try simp only [List.setIfInBounds_toArray]
    try simp only [List.set]
    refine wpAnyH_take (i := 10) (v := ?v97) rfl (by kernel_rfl) (by kernel_rfl) (by kernel_rfl) (fun _ _ _ h => h) (Or.inl ⟨by kernel_rfl, ?h97⟩) hHeld ?_
    case h97 => intro u hSw; (try dsimp only at hSw); go_simp; try with_reducible rfl
    try simp only [List.getElem_toArray]
    try simp only [List.getElem_cons_succ]
    try simp only [List.getElem_cons_zero]
    try simp only [Act.put]
    try simp only [List.setIfInBounds_toArray]
    try simp only [List.set]
    refine wpAnyH_take (i := 11) (v := ?v98) rfl (by kernel_rfl) (by kernel_rfl) (by kernel_rfl) (fun _ _ _ h => h) (Or.inl ⟨by kernel_rfl, ?h98⟩) hHeld ?_
    case h98 => intro u hSw; obtain ⟨⟨c0, c1, c2, c3⟩, _⟩ := hSw; go_simp; try with_reducible rfl
    try simp only [List.getElem_toArray]
    try simp only [List.getElem_cons_succ]
    try simp only [List.getElem_cons_zero]
    try simp only [Act.put]
    try simp only [List.setIfInBounds_toArray]
    try simp only [List.set]
    refine wpAnyH_ready (rs := [0, 12]) (by kernel_rfl) (by simp) ?_
    refine AllReadyH.cons rfl (fun K hK => ?_) (AllReadyH.cons rfl (fun K hK => ?_) AllReadyH.nil)
    · go_simp
      have gb : ∀ o, Below D.heap.size D (D.alloc o) := fun o => by go_grown
      refine hK.out _ _ (⟨hHeld.1.up (gb _), hHeld.2.trans ((gb _).mono hHeld.2.size)⟩) (fun hHeld => ?_)
      clear hK K gb
      try simp only [Act.put]
      try simp only [List.setIfInBounds_toArray]
      try simp only [List.set]
      have hw : (D.alloc (.cells #[.string ⟨#[]⟩, .string ⟨#[98, 101, 103, 105, 110]⟩, .string ⟨#[100, 101, 108, 116, 97]⟩, .string ⟨#[99, 111, 109, 112]⟩, .string ⟨#[105, 109, 97, 103, 101]⟩, .string ⟨#[99, 111, 109, 109, 105, 116]⟩, .string ⟨#[97, 98, 111, 114, 116]⟩] 9)).cell? ⟨D.heap.size, 6, none⟩ = some (.string ⟨#[97, 98, 111, 114, 116]⟩) := by simp [go_sem]
      generalize D.alloc (.cells #[.string ⟨#[]⟩, .string ⟨#[98, 101, 103, 105, 110]⟩, .string ⟨#[100, 101, 108, 116, 97]⟩, .string ⟨#[99, 111, 109, 112]⟩, .string ⟨#[105, 109, 97, 103, 101]⟩, .string ⟨#[99, 111, 109, 109, 105, 116]⟩, .string ⟨#[97, 98, 111, 114, 116]⟩] 9) = X at hw hHeld ⊢
      generalize D.heap.size = gg at hw ⊢
      refine wpAnyH_up (S' := fun V => (RcAt V b 6 (tx : Int) (pg : Int) a n c ∧ Below w.heap.size w V) ∧ V.cell? ⟨gg, 6, none⟩ = some (.string ⟨#[97, 98, 111, 114, 116]⟩)) (fun _ h => h.1) _ _ _ _ ?_
      have hHeld : (fun V => (RcAt V b 6 (tx : Int) (pg : Int) a n c ∧ Below w.heap.size w V) ∧ V.cell? ⟨gg, 6, none⟩ = some (.string ⟨#[97, 98, 111, 114, 116]⟩)) X := ⟨hHeld, hw⟩
      clear hw
      refine wpAnyH_take (i := 5) (v := ?v99) rfl (by kernel_rfl) (by kernel_rfl) (by kernel_rfl) (fun _ _ _ h => h) (Or.inl ⟨by kernel_rfl, ?h99⟩) hHeld ?_
      case h99 => intro u hSw; (try dsimp only at hSw); go_simp; try with_reducible rfl
      try simp only [List.getElem_toArray]
      try simp only [List.getElem_cons_succ]
      try simp only [List.getElem_cons_zero]
      try simp only [Act.put]
      try simp only [List.setIfInBounds_toArray]
      try simp only [List.set]
      refine wpAnyH_take (i := 6) (v := ?v100) rfl (by kernel_rfl) (by kernel_rfl) (by kernel_rfl) (fun _ _ _ h => h) (Or.inl ⟨by kernel_rfl, ?h100⟩) hHeld ?_
      case h100 => intro u hSw; obtain ⟨_, cw⟩ := hSw; go_simp; try with_reducible rfl
      try simp only [List.getElem_toArray]
      try simp only [List.getElem_cons_succ]
      try simp only [List.getElem_cons_zero]
      try simp only [Act.put]
      try simp only [List.setIfInBounds_toArray]
      try simp only [List.set]
      refine wpAnyH_take (i := 7) (v := ?v101) rfl (by kernel_rfl) (by kernel_rfl) (by kernel_rfl) (fun _ _ _ h => h) (Or.inl ⟨by kernel_rfl, ?h101⟩) hHeld ?_
      case h101 => intro u hSw; (try dsimp only at hSw); go_simp; try with_reducible rfl
      try simp only [List.getElem_toArray]
      try simp only [List.getElem_cons_succ]
      try simp only [List.getElem_cons_zero]
      try simp only [Act.put]
      try simp only [List.setIfInBounds_toArray]
      try simp only [List.set]
      refine wpAnyH_ready (rs := [12]) (by kernel_rfl) (by simp) ?_
      refine AllReadyH.cons rfl (fun K hK => ?_) AllReadyH.nil
      go_simp
      go_wp2_with (go_at_call 62; refine (l1Digits_any tx htx _).mono ?_; rintro e w7 ⟨rfl, hb⟩)
      refine hK.out _ _ (⟨⟨hHeld.1.1.up hb, hHeld.1.2.trans (hb.mono hHeld.1.2.size)⟩, cellUp hb hHeld.2⟩) (fun hHeld => ?_)
      clear hK K
      clear hb
      try simp only [Act.put]
      try simp only [List.setIfInBounds_toArray]
      try simp only [List.set]
      refine wpAnyH_take (i := 13) (v := ?v102) rfl (by kernel_rfl) (by kernel_rfl) (by kernel_rfl) (fun _ _ _ h => h) (Or.inl ⟨by kernel_rfl, ?h102⟩) hHeld ?_
      case h102 => intro u hSw; (try dsimp only at hSw); go_simp; try with_reducible rfl
      try simp only [List.getElem_toArray]
      try simp only [List.getElem_cons_succ]
      try simp only [List.getElem_cons_zero]
      try simp only [Act.put]
      try simp only [List.setIfInBounds_toArray]
      try simp only [List.set]
      refine wpAnyH_take (i := 14) (v := ?v103) rfl (by kernel_rfl) (by kernel_rfl) (by kernel_rfl) (fun _ _ _ h => h) (Or.inl ⟨by kernel_rfl, ?h103⟩) hHeld ?_
      case h103 => intro u hSw; (try dsimp only at hSw); go_simp; try with_reducible rfl
      try simp only [List.getElem_toArray]
      try simp only [List.getElem_cons_succ]
      try simp only [List.getElem_cons_zero]
      try simp only [Act.put]
      try simp only [List.setIfInBounds_toArray]
      try simp only [List.set]
      refine wpAnyH_done (by kernel_rfl) ?_ _
      go_wp2_with fail
      go_meet
      exact ⟨rfl, hHeld.1.2⟩
    · go_simp
      go_wp2_with (go_at_call 62; refine (l1Digits_any tx htx _).mono ?_; rintro e w7 ⟨rfl, hb⟩)
      refine hK.out _ _ (⟨hHeld.1.up hb, hHeld.2.trans (hb.mono hHeld.2.size)⟩) (fun hHeld => ?_)
      clear hK K hb
      try simp only [Act.put]
      try simp only [List.setIfInBounds_toArray]
      try simp only [List.set]
      refine wpAnyH_ready (rs := [0]) (by kernel_rfl) (by simp) ?_
      refine AllReadyH.cons rfl (fun K hK => ?_) AllReadyH.nil
      go_simp
      have gb : ∀ o, Below w7.heap.size w7 (w7.alloc o) := fun o => by go_grown
      refine hK.out _ _ (⟨hHeld.1.up (gb _), hHeld.2.trans ((gb _).mono hHeld.2.size)⟩) (fun hHeld => ?_)
      clear hK K gb
      try simp only [Act.put]
      try simp only [List.setIfInBounds_toArray]
      try simp only [List.set]
      have hw : (w7.alloc (.cells #[.string ⟨#[]⟩, .string ⟨#[98, 101, 103, 105, 110]⟩, .string ⟨#[100, 101, 108, 116, 97]⟩, .string ⟨#[99, 111, 109, 112]⟩, .string ⟨#[105, 109, 97, 103, 101]⟩, .string ⟨#[99, 111, 109, 109, 105, 116]⟩, .string ⟨#[97, 98, 111, 114, 116]⟩] 9)).cell? ⟨w7.heap.size, 6, none⟩ = some (.string ⟨#[97, 98, 111, 114, 116]⟩) := by simp [go_sem]
      generalize w7.alloc (.cells #[.string ⟨#[]⟩, .string ⟨#[98, 101, 103, 105, 110]⟩, .string ⟨#[100, 101, 108, 116, 97]⟩, .string ⟨#[99, 111, 109, 112]⟩, .string ⟨#[105, 109, 97, 103, 101]⟩, .string ⟨#[99, 111, 109, 109, 105, 116]⟩, .string ⟨#[97, 98, 111, 114, 116]⟩] 9) = X at hw hHeld ⊢
      generalize w7.heap.size = gg at hw ⊢
      refine wpAnyH_up (S' := fun V => (RcAt V b 6 (tx : Int) (pg : Int) a n c ∧ Below w.heap.size w V) ∧ V.cell? ⟨gg, 6, none⟩ = some (.string ⟨#[97, 98, 111, 114, 116]⟩)) (fun _ h => h.1) _ _ _ _ ?_
      have hHeld : (fun V => (RcAt V b 6 (tx : Int) (pg : Int) a n c ∧ Below w.heap.size w V) ∧ V.cell? ⟨gg, 6, none⟩ = some (.string ⟨#[97, 98, 111, 114, 116]⟩)) X := ⟨hHeld, hw⟩
      clear hw
      refine wpAnyH_take (i := 5) (v := ?v104) rfl (by kernel_rfl) (by kernel_rfl) (by kernel_rfl) (fun _ _ _ h => h) (Or.inl ⟨by kernel_rfl, ?h104⟩) hHeld ?_
      case h104 => intro u hSw; (try dsimp only at hSw); go_simp; try with_reducible rfl
      try simp only [List.getElem_toArray]
      try simp only [List.getElem_cons_succ]
      try simp only [List.getElem_cons_zero]
      try simp only [Act.put]
      try simp only [List.setIfInBounds_toArray]
      try simp only [List.set]
      refine wpAnyH_take (i := 6) (v := ?v105) rfl (by kernel_rfl) (by kernel_rfl) (by kernel_rfl) (fun _ _ _ h => h) (Or.inl ⟨by kernel_rfl, ?h105⟩) hHeld ?_
      case h105 => intro u hSw; obtain ⟨_, cw⟩ := hSw; go_simp; try with_reducible rfl
      try simp only [List.getElem_toArray]
      try simp only [List.getElem_cons_succ]
      try simp only [List.getElem_cons_zero]
      try simp only [Act.put]
      try simp only [List.setIfInBounds_toArray]
      try simp only [List.set]
      refine wpAnyH_take (i := 7) (v := ?v106) rfl (by kernel_rfl) (by kernel_rfl) (by kernel_rfl) (fun _ _ _ h => h) (Or.inl ⟨by kernel_rfl, ?h106⟩) hHeld ?_
      case h106 => intro u hSw; (try dsimp only at hSw); go_simp; try with_reducible rfl
      try simp only [List.getElem_toArray]
      try simp only [List.getElem_cons_succ]
      try simp only [List.getElem_cons_zero]
      try simp only [Act.put]
      try simp only [List.setIfInBounds_toArray]
      try simp only [List.set]
      refine wpAnyH_take (i := 13) (v := ?v107) rfl (by kernel_rfl) (by kernel_rfl) (by kernel_rfl) (fun _ _ _ h => h) (Or.inl ⟨by kernel_rfl, ?h107⟩) hHeld ?_
      case h107 => intro u hSw; (try dsimp only at hSw); go_simp; try with_reducible rfl
      try simp only [List.getElem_toArray]
      try simp only [List.getElem_cons_succ]
      try simp only [List.getElem_cons_zero]
      try simp only [Act.put]
      try simp only [List.setIfInBounds_toArray]
      try simp only [List.set]
      refine wpAnyH_take (i := 14) (v := ?v108) rfl (by kernel_rfl) (by kernel_rfl) (by kernel_rfl) (fun _ _ _ h => h) (Or.inl ⟨by kernel_rfl, ?h108⟩) hHeld ?_
      case h108 => intro u hSw; (try dsimp only at hSw); go_simp; try with_reducible rfl
      try simp only [List.getElem_toArray]
      try simp only [List.getElem_cons_succ]
      try simp only [List.getElem_cons_zero]
      try simp only [Act.put]
      try simp only [List.setIfInBounds_toArray]
      try simp only [List.set]
      refine wpAnyH_done (by kernel_rfl) ?_ _
      go_wp2_with fail
      go_meet
      exact ⟨rfl, hHeld.1.2⟩
  case rest =>
    obtain ⟨rfl, g⟩ := hcut
    obtain ⟨c0, c1, c2, c3⟩ := HH.out.up g
    go_wp2_with fail
    refine (l4Runs_any 6 _).mono ?_
    rintro e w' ⟨rfl, hw'⟩
    subst w'
    rw [show inR 6 2 4 = false from rfl]
    go_wp2_with fail
    go_ret
    exact ⟨congrArg (fun x => Ending.returned (.string x)) (txtS_1 _ _), g⟩

end Go.Proofs.YtcjkjenebnodbaaDoor
