/-
  The model's l4Pack.
-/
import Derived.Test.YtcjkjenebnodbaaDoorSPkb

namespace Go.Proofs.YtcjkjenebnodbaaDoor
open Go.RowKit
set_option linter.unusedVariables false

/-- What a round of the model's packing reads. -/
structure LpS (w : World) (b : Nat) (a : Option Addr) (n c rb ro j : Nat) (p : Int) (aj : Option Addr) (l cj : Nat) (V : World) : Prop where
  c3 : V.cell? ⟨b, 3, none⟩ = some (.slice a n c)
  e0 : V.cell? ⟨rb, ro + j * 2, none⟩ = some (.int .i64 p)
  e1 : V.cell? ⟨rb, ro + j * 2 + 1, none⟩ = some (.slice aj l cj)
  g : Below w.heap.size w V

set_option maxHeartbeats 4000000 in
theorem l4PackG_any (b : Nat) (k tx pg : Int) (a : Option Addr) (n c : Nat) (P : Nat → Int) (A : Nat → Option Addr) (C : Nat → Nat) (Z : Nat → List Int) (w : World) (ho : RunsOk n Z) (hr : RunsRead w a n P A C Z) (h : RcAt w b k tx pg a n c) :
    Calls Tryd.prog 23 #[.pointer (some ⟨b, 0, none⟩)] w fun e w' => ∃ g d, e = .returned (.slice (some ⟨g, 0, none⟩) (packB k tx pg n P Z).length d) ∧ (packB k tx pg n P Z).length ≤ d ∧ Below w.heap.size w w' ∧ BytesIn w.heap.size w'.heap.size w' (some ⟨g, 0, none⟩) (packB k tx pg n P Z) ∧ Gb w.heap.size w' (.slice (some ⟨g, 0, none⟩) (packB k tx pg n P Z).length d) (packB k tx pg n P Z) := by
  obtain ⟨i0, hi0, hz0, hz1, hz2⟩ := info5
  have hn := ho.few
  have HO : Hid (RunsOk n Z) := ho
  have HR : Hid (RunsRead w a n P A C Z) := hr
  have HC : Hid (RcAt w b k tx pg a n c) := h
  clear hr ho
  have q0 := IntKind.wrap_u8 k
  have q1 := IntKind.wrap_u8 tx
  have q2 := IntKind.wrap_u8 pg
  have q3 : IntKind.u8.wrap (n : Int) = (n : Int) := by rw [IntKind.wrap_u8]; omega
  go_enter Tryd.func23, Tryd.ntmps23
  go_upto_region 1 with (fail)
  refine wp_region_held_drew (S := fun V => RcAt V b k tx pg a n c ∧ Below w.heap.size w V) (by kernel_rfl) ⟨h.up (Below.refl _ _).drew, (Below.refl _ _).drew⟩ (fun hHeld => ?_)
  generalize w.drew = D at hHeld ⊢
  clear h
  refine wpAnyH_take (i := 0) (v := ?v1) rfl (by kernel_rfl) (by kernel_rfl) (by kernel_rfl) (fun _ _ _ h => h) (Or.inl ⟨by kernel_rfl, ?h1⟩) hHeld ?_
  case h1 => intro u hSw; (try dsimp only at hSw); go_simp; try with_reducible rfl
  try simp only [List.getElem_toArray]
  try simp only [List.getElem_cons_succ]
  try simp only [List.getElem_cons_zero]
  try simp only [Act.put]
  try simp only [List.setIfInBounds_toArray]
  try simp only [List.set]
  refine wpAnyH_take (i := 1) (v := ?v2) rfl (by kernel_rfl) (by kernel_rfl) (by kernel_rfl) (fun _ _ _ h => h) (Or.inl ⟨by kernel_rfl, ?h2⟩) hHeld ?_
  case h2 => intro u hSw; (try dsimp only at hSw); go_simp; try with_reducible rfl
  try simp only [List.getElem_toArray]
  try simp only [List.getElem_cons_succ]
  try simp only [List.getElem_cons_zero]
  try simp only [Act.put]
  try simp only [List.setIfInBounds_toArray]
  try simp only [List.set]
  refine wpAnyH_take (i := 2) (v := ?v3) rfl (by kernel_rfl) (by kernel_rfl) (by kernel_rfl) (fun _ _ _ h => h) (Or.inl ⟨by kernel_rfl, ?h3⟩) hHeld ?_
  case h3 => intro u hSw; (try dsimp only at hSw); go_simp; try with_reducible rfl
  try simp only [List.getElem_toArray]
  try simp only [List.getElem_cons_succ]
  try simp only [List.getElem_cons_zero]
  try simp only [Act.put]
  try simp only [List.setIfInBounds_toArray]
  try simp only [List.set]
  refine wpAnyH_take (i := 3) (v := ?v4) rfl (by kernel_rfl) (by kernel_rfl) (by kernel_rfl) (fun _ _ _ h => h) (Or.inl ⟨by kernel_rfl, ?h4⟩) hHeld ?_
  case h4 => intro u hSw; obtain ⟨c0, c1, c2, c3⟩ := hSw.1; clear hSw; go_simp; try with_reducible rfl
  try simp only [List.getElem_toArray]
  try simp only [List.getElem_cons_succ]
  try simp only [List.getElem_cons_zero]
  try simp only [Act.put]
  try simp only [List.setIfInBounds_toArray]
  try simp only [List.set]
  refine wpAnyH_take (i := 4) (v := ?v5) rfl (by kernel_rfl) (by kernel_rfl) (by kernel_rfl) (fun _ _ _ h => h) (Or.inl ⟨by kernel_rfl, ?h5⟩) hHeld ?_
  case h5 => intro u hSw; (try dsimp only at hSw); go_simp; try with_reducible rfl
  try simp only [List.getElem_toArray]
  try simp only [List.getElem_cons_succ]
  try simp only [List.getElem_cons_zero]
  try simp only [Act.put]
  try simp only [List.setIfInBounds_toArray]
  try simp only [List.set]
  refine wpAnyH_take (i := 5) (v := ?v6) rfl (by kernel_rfl) (by kernel_rfl) (by kernel_rfl) (fun _ _ _ h => h) (Or.inl ⟨by kernel_rfl, ?h6⟩) hHeld ?_
  case h6 => intro u hSw; (try dsimp only at hSw); go_simp; try with_reducible rfl
  try simp only [List.getElem_toArray]
  try simp only [List.getElem_cons_succ]
  try simp only [List.getElem_cons_zero]
  try simp only [Act.put]
  try simp only [List.setIfInBounds_toArray]
  try simp only [List.set]
  refine wpAnyH_take (i := 6) (v := ?v7) rfl (by kernel_rfl) (by kernel_rfl) (by kernel_rfl) (fun _ _ _ h => h) (Or.inl ⟨by kernel_rfl, ?h7⟩) hHeld ?_
  case h7 => intro u hSw; (try dsimp only at hSw); go_simp; try with_reducible rfl
  try simp only [List.getElem_toArray]
  try simp only [List.getElem_cons_succ]
  try simp only [List.getElem_cons_zero]
  try simp only [Act.put]
  try simp only [List.setIfInBounds_toArray]
  try simp only [List.set]
  refine wpAnyH_take (i := 7) (v := ?v8) rfl (by kernel_rfl) (by kernel_rfl) (by kernel_rfl) (fun _ _ _ h => h) (Or.inl ⟨by kernel_rfl, ?h8⟩) hHeld ?_
  case h8 => intro u hSw; (try dsimp only at hSw); go_simp; try with_reducible rfl
  try simp only [List.getElem_toArray]
  try simp only [List.getElem_cons_succ]
  try simp only [List.getElem_cons_zero]
  try simp only [Act.put]
  try simp only [List.setIfInBounds_toArray]
  try simp only [List.set]
  refine wpAnyH_take (i := 8) (v := ?v9) rfl (by kernel_rfl) (by kernel_rfl) (by kernel_rfl) (fun _ _ _ h => h) (Or.inl ⟨by kernel_rfl, ?h9⟩) hHeld ?_
  case h9 => intro u hSw; obtain ⟨c0, c1, c2, c3⟩ := hSw.1; clear hSw; go_simp; try with_reducible rfl
  try simp only [List.getElem_toArray]
  try simp only [List.getElem_cons_succ]
  try simp only [List.getElem_cons_zero]
  try simp only [Act.put]
  try simp only [List.setIfInBounds_toArray]
  try simp only [List.set]
  refine wpAnyH_take (i := 9) (v := ?v10) rfl (by kernel_rfl) (by kernel_rfl) (by kernel_rfl) (fun _ _ _ h => h) (Or.inl ⟨by kernel_rfl, ?h10⟩) hHeld ?_
  case h10 => intro u hSw; (try dsimp only at hSw); go_simp; try with_reducible rfl
  try simp only [List.getElem_toArray]
  try simp only [List.getElem_cons_succ]
  try simp only [List.getElem_cons_zero]
  try simp only [Act.put]
  try simp only [List.setIfInBounds_toArray]
  try simp only [List.set]
  refine wpAnyH_take (i := 10) (v := ?v11) rfl (by kernel_rfl) (by kernel_rfl) (by kernel_rfl) (fun _ _ _ h => h) (Or.inl ⟨by kernel_rfl, ?h11⟩) hHeld ?_
  case h11 => intro u hSw; (try dsimp only at hSw); go_simp; try with_reducible rfl
  try simp only [List.getElem_toArray]
  try simp only [List.getElem_cons_succ]
  try simp only [List.getElem_cons_zero]
  try simp only [Act.put]
  try simp only [List.setIfInBounds_toArray]
  try simp only [List.set]
  refine wpAnyH_take (i := 11) (v := ?v12) rfl (by kernel_rfl) (by kernel_rfl) (by kernel_rfl) (fun _ _ _ h => h) (Or.inl ⟨by kernel_rfl, ?h12⟩) hHeld ?_
  case h12 => intro u hSw; (try dsimp only at hSw); go_simp; try with_reducible rfl
  try simp only [List.getElem_toArray]
  try simp only [List.getElem_cons_succ]
  try simp only [List.getElem_cons_zero]
  try simp only [Act.put]
  try simp only [List.setIfInBounds_toArray]
  try simp only [List.set]
  refine wpAnyH_take (i := 12) (v := ?v13) rfl (by kernel_rfl) (by kernel_rfl) (by kernel_rfl) (fun _ _ _ h => h) (Or.inl ⟨by kernel_rfl, ?h13⟩) hHeld ?_
  case h13 => intro u hSw; (try dsimp only at hSw); go_simp; try with_reducible rfl
  try simp only [List.getElem_toArray]
  try simp only [List.getElem_cons_succ]
  try simp only [List.getElem_cons_zero]
  try simp only [Act.put]
  try simp only [List.setIfInBounds_toArray]
  try simp only [List.set]
  refine wpAnyH_take (i := 13) (v := ?v14) rfl (by kernel_rfl) (by kernel_rfl) (by kernel_rfl) (fun _ _ _ h => h) (Or.inl ⟨by kernel_rfl, ?h14⟩) hHeld ?_
  case h14 => intro u hSw; obtain ⟨c0, c1, c2, c3⟩ := hSw.1; clear hSw; go_simp; try with_reducible rfl
  try simp only [List.getElem_toArray]
  try simp only [List.getElem_cons_succ]
  try simp only [List.getElem_cons_zero]
  try simp only [Act.put]
  try simp only [List.setIfInBounds_toArray]
  try simp only [List.set]
  refine wpAnyH_take (i := 14) (v := ?v15) rfl (by kernel_rfl) (by kernel_rfl) (by kernel_rfl) (fun _ _ _ h => h) (Or.inl ⟨by kernel_rfl, ?h15⟩) hHeld ?_
  case h15 => intro u hSw; (try dsimp only at hSw); go_simp; try with_reducible rfl
  try simp only [List.getElem_toArray]
  try simp only [List.getElem_cons_succ]
  try simp only [List.getElem_cons_zero]
  try simp only [Act.put]
  try simp only [List.setIfInBounds_toArray]
  try simp only [List.set]
  refine wpAnyH_take (i := 15) (v := ?v16) rfl (by kernel_rfl) (by kernel_rfl) (by kernel_rfl) (fun _ _ _ h => h) (Or.inl ⟨by kernel_rfl, ?h16⟩) hHeld ?_
  case h16 => intro u hSw; (try dsimp only at hSw); go_simp; try with_reducible rfl
  try simp only [List.getElem_toArray]
  try simp only [List.getElem_cons_succ]
  try simp only [List.getElem_cons_zero]
  try simp only [Act.put]
  try simp only [List.setIfInBounds_toArray]
  try simp only [List.set]
  refine wpAnyH_take (i := 16) (v := ?v17) rfl (by kernel_rfl) (by kernel_rfl) (by kernel_rfl) (fun _ _ _ h => h) (Or.inl ⟨by kernel_rfl, ?h17⟩) hHeld ?_
  case h17 => intro u hSw; (try dsimp only at hSw); go_simp; try with_reducible rfl
  try simp only [List.getElem_toArray]
  try simp only [List.getElem_cons_succ]
  try simp only [List.getElem_cons_zero]
  try simp only [Act.put]
  try simp only [List.setIfInBounds_toArray]
  try simp only [List.set]
  refine wpAnyH_take (i := 17) (v := ?v18) rfl (by kernel_rfl) (by kernel_rfl) (by kernel_rfl) (fun _ _ _ h => h) (Or.inl ⟨by kernel_rfl, ?h18⟩) hHeld ?_
  case h18 => intro u hSw; (try dsimp only at hSw); go_simp; try with_reducible rfl
  try simp only [List.getElem_toArray]
  try simp only [List.getElem_cons_succ]
  try simp only [List.getElem_cons_zero]
  try simp only [Act.put]
  try simp only [List.setIfInBounds_toArray]
  try simp only [List.set]
  refine wpAnyH_take (i := 18) (v := ?v19) rfl (by kernel_rfl) (by kernel_rfl) (by kernel_rfl) (fun _ _ _ h => h) (Or.inl ⟨by kernel_rfl, ?h19⟩) hHeld ?_
  case h19 => intro u hSw; obtain ⟨c0, c1, c2, c3⟩ := hSw.1; clear hSw; go_simp; try with_reducible rfl
  try simp only [List.getElem_toArray]
  try simp only [List.getElem_cons_succ]
  try simp only [List.getElem_cons_zero]
  try simp only [Act.put]
  try simp only [List.setIfInBounds_toArray]
  try simp only [List.set]
  refine wpAnyH_take (i := 19) (v := ?v20) rfl (by kernel_rfl) (by kernel_rfl) (by kernel_rfl) (fun _ _ _ h => h) (Or.inl ⟨by kernel_rfl, ?h20⟩) hHeld ?_
  case h20 => intro u hSw; (try dsimp only at hSw); go_simp; try with_reducible rfl
  try simp only [List.getElem_toArray]
  try simp only [List.getElem_cons_succ]
  try simp only [List.getElem_cons_zero]
  try simp only [Act.put]
  try simp only [List.setIfInBounds_toArray]
  try simp only [List.set]
  refine wpAnyH_take (i := 20) (v := ?v21) rfl (by kernel_rfl) (by kernel_rfl) (by kernel_rfl) (fun _ _ _ h => h) (Or.inl ⟨by kernel_rfl, ?h21⟩) hHeld ?_
  case h21 => intro u hSw; (try dsimp only at hSw); go_simp; try with_reducible rfl
  try simp only [List.getElem_toArray]
  try simp only [List.getElem_cons_succ]
  try simp only [List.getElem_cons_zero]
  try simp only [Act.put]
  try simp only [List.setIfInBounds_toArray]
  try simp only [List.set]
  have gb : Below D.heap.size D (D.alloc (.cells #[.int .u8 0, .int .u8 (k % 256), .int .u8 (tx % 256), .int .u8 (pg % 256), .int .u8 n] 5)) := by go_grown
  have hG : Gb w.heap.size (D.alloc (.cells #[.int .u8 0, .int .u8 (k % 256), .int .u8 (tx % 256), .int .u8 (pg % 256), .int .u8 n] 5)) (.slice (some ⟨D.heap.size, 0, none⟩) 5 5) (recB0 k tx pg n 0 P Z) :=
    World.ownsRow_lit (base := w.heap.size) (e := 5) (size := 1) D _ 5 hHeld.2.size (by unfold maxLen; omega) rfl
  refine wpAnyH_ready (rs := [21]) (by kernel_rfl) (by simp) ?_
  refine AllReadyH.cons rfl (fun K hK => ?_) AllReadyH.nil
  go_simp
  refine hK.out _ _ (⟨hHeld.1.up gb, hHeld.2.trans (gb.mono hHeld.2.size)⟩) (fun hHeld => ?_)
  clear hK K
  try simp only [Act.put]
  try simp only [List.setIfInBounds_toArray]
  try simp only [List.set]
  generalize D.alloc (.cells #[.int .u8 0, .int .u8 (k % 256), .int .u8 (tx % 256), .int .u8 (pg % 256), .int .u8 n] 5) = V at hHeld hG ⊢
  generalize D.heap.size = yb at hG ⊢
  clear gb
  refine wpAnyH_take (i := 22) (v := ?v50) rfl (by kernel_rfl) (by kernel_rfl) (by kernel_rfl) (fun _ _ _ h => h) (Or.inl ⟨by kernel_rfl, ?h50⟩) hHeld ?_
  case h50 => intro u hSw; (try dsimp only at hSw); go_simp; try with_reducible rfl
  try simp only [List.getElem_toArray]
  try simp only [List.getElem_cons_succ]
  try simp only [List.getElem_cons_zero]
  try simp only [Act.put]
  try simp only [List.setIfInBounds_toArray]
  try simp only [List.set]
  refine wpAnyH_done (by kernel_rfl) ?_ _
  have g := hHeld.2
  clear hHeld q0 q1 q2 q3
  go_wp2_with fail
  go_loopw [4, 3] (fun i v wr => ∃ j : Nat, j ≤ n ∧ i = .int .i64 j ∧ Gb w.heap.size wr v (recB0 k tx pg n j P Z) ∧ Below w.heap.size w wr) (fun i _ _ => n - (intOf i).toNat)
  case atStart => exact ⟨0, Nat.zero_le _, rfl, hG, g⟩
  case round =>
    obtain ⟨j, hj, rfl, hG, g⟩ := hrel
    have c3 : wr.cell? ⟨b, 3, none⟩ = some (.slice a n c) := (g.cell (World.block_lt_of_cell? w _ HC.out.c3)).trans HC.out.c3
    by_cases hlt : j < n
    · obtain ⟨rb, ro, rfl⟩ : ∃ rb ro, a = some ⟨rb, ro, none⟩ := by
        rcases HR.out with h | ⟨rb, ro, h, _⟩
        · omega
        · exact ⟨rb, ro, h⟩
      obtain ⟨z1, z64⟩ := HO.out.len j hlt
      have htot := HO.out.upto (j + 1) (by omega)
      have hsc := recB0_succ k tx pg n j P Z
      have hbl := recB0_len k tx pg n j P Z
      simp only [took] at htot
      obtain ⟨xs, hxs⟩ : ∃ xs, xs = recB0 k tx pg n j P Z := ⟨_, rfl⟩
      obtain ⟨zs, hzs⟩ : ∃ zs, zs = Z j := ⟨_, rfl⟩
      obtain ⟨l, hlv⟩ : ∃ l, l = (Z j).length := ⟨_, rfl⟩
      obtain ⟨p, hp⟩ : ∃ p, p = P j := ⟨_, rfl⟩
      have hAj : ∃ ab ao, A j = some ⟨ab, ao, none⟩ ∧ ∀ V, Below w.heap.size w V → ∀ i, i < zs.length → V.cell? ⟨ab, ao + i, none⟩ = some (.int .u8 (zs.getD i 0)) := by
        obtain ⟨_, _, e2⟩ := HR.out.at_ j hlt
        rcases e2 with e2 | ⟨ab, ao, hA, hc⟩
        · rw [e2] at z1; simp at z1
        · refine ⟨ab, ao, hA, fun V gV i hi => ?_⟩
          rw [hzs] at hi ⊢
          exact (gV.cell (World.block_lt_of_cell? w _ (hc i hi))).trans (hc i hi)
      obtain ⟨ab, ao, hA, hbyt⟩ := hAj
      have HBy : Hid (∀ V, Below w.heap.size w V → ∀ i, i < zs.length → V.cell? ⟨ab, ao + i, none⟩ = some (.int .u8 (zs.getD i 0))) := hbyt
      have HLp : Hid (∀ V, Below w.heap.size w V → LpS w b (some ⟨rb, ro, none⟩) n c rb ro j p (some ⟨ab, ao, none⟩) l (C j) V) := fun V gV => by
        obtain ⟨e0, e1, _⟩ := HR.out.at_ j hlt
        rw [← hp] at e0
        rw [← hlv, hA] at e1
        have c3 := HC.out.c3
        exact ⟨(gV.cell (World.block_lt_of_cell? w _ c3)).trans c3, (gV.cell (World.block_lt_of_cell? w _ e0)).trans e0, (gV.cell (World.block_lt_of_cell? w _ e1)).trans e1, gV⟩
      rw [← hxs] at hG hsc hbl
      rw [← hlv] at z1 z64 hsc htot
      rw [← hzs, ← hp] at hsc
      have HS : Hid (recB0 k tx pg n (j + 1) P Z = xs ++ [p % 256, (l : Int)] ++ zs) := hsc
      have HL : Hid (zs.length = l) := by show _ = _; rw [hzs, hlv]
      have hxl : xs.length ≤ 300 := by omega
      have hjn : (j : Int) < (n : Int) := by omega
      have hvlt : Hid _ := World.ownsRow.lt hG
      have q0 := IntKind.wrap_u8 p
      have q1 : IntKind.u8.wrap (l : Int) = (l : Int) := by rw [IntKind.wrap_u8]; omega
      clear hsc hbl hxs hzs hlv hp hA hbyt
      go_wp2_with fail
      clear c3
      refine wp_region_held_drew (S := fun V => LpS w b (some ⟨rb, ro, none⟩) n c rb ro j p (some ⟨ab, ao, none⟩) l (C j) V) (by kernel_rfl) (HLp.out _ g.drew) (fun hHeld => ?_)
      have hG := hG.grown (show Below wr.heap.size wr wr.drew from (Below.refl _ _).drew)
      generalize wr.drew = D at hHeld hG ⊢
      clear g
      refine wpAnyH_take (i := 0) (v := ?v22) rfl (by kernel_rfl) (by kernel_rfl) (by kernel_rfl) (fun _ _ _ h => h) (Or.inl ⟨by kernel_rfl, ?h22⟩) hHeld ?_
      case h22 => intro u hSw; (try dsimp only at hSw); go_simp; try with_reducible rfl
      try simp only [List.getElem_toArray]
      try simp only [List.getElem_cons_succ]
      try simp only [List.getElem_cons_zero]
      try simp only [Act.put]
      try simp only [List.setIfInBounds_toArray]
      try simp only [List.set]
      refine wpAnyH_take (i := 1) (v := ?v23) rfl (by kernel_rfl) (by kernel_rfl) (by kernel_rfl) (fun _ _ _ h => h) (Or.inl ⟨by kernel_rfl, ?h23⟩) hHeld ?_
      case h23 => intro u hSw; (try dsimp only at hSw); go_simp; try with_reducible rfl
      try simp only [List.getElem_toArray]
      try simp only [List.getElem_cons_succ]
      try simp only [List.getElem_cons_zero]
      try simp only [Act.put]
      try simp only [List.setIfInBounds_toArray]
      try simp only [List.set]
      refine wpAnyH_take (i := 2) (v := ?v24) rfl (by kernel_rfl) (by kernel_rfl) (by kernel_rfl) (fun _ _ _ h => h) (Or.inl ⟨by kernel_rfl, ?h24⟩) hHeld ?_
      case h24 => intro u hSw; (try dsimp only at hSw); go_simp; try with_reducible rfl
      try simp only [List.getElem_toArray]
      try simp only [List.getElem_cons_succ]
      try simp only [List.getElem_cons_zero]
      try simp only [Act.put]
      try simp only [List.setIfInBounds_toArray]
      try simp only [List.set]
      refine wpAnyH_take (i := 3) (v := ?v25) rfl (by kernel_rfl) (by kernel_rfl) (by kernel_rfl) (fun _ _ _ h => h) (Or.inl ⟨by kernel_rfl, ?h25⟩) hHeld ?_
      case h25 => intro u hSw; (try dsimp only at hSw); go_simp; try with_reducible rfl
      try simp only [List.getElem_toArray]
      try simp only [List.getElem_cons_succ]
      try simp only [List.getElem_cons_zero]
      try simp only [Act.put]
      try simp only [List.setIfInBounds_toArray]
      try simp only [List.set]
      refine wpAnyH_take (i := 4) (v := ?v26) rfl (by kernel_rfl) (by kernel_rfl) (by kernel_rfl) (fun _ _ _ h => h) (Or.inl ⟨by kernel_rfl, ?h26⟩) hHeld ?_
      case h26 => intro u hSw; obtain ⟨c3, e0, e1, _⟩ := hSw; go_simp; try with_reducible rfl
      try simp only [List.getElem_toArray]
      try simp only [List.getElem_cons_succ]
      try simp only [List.getElem_cons_zero]
      try simp only [Act.put]
      try simp only [List.setIfInBounds_toArray]
      try simp only [List.set]
      refine wpAnyH_take (i := 5) (v := ?v27) rfl (by kernel_rfl) (by kernel_rfl) (by kernel_rfl) (fun _ _ _ h => h) (Or.inl ⟨by kernel_rfl, ?h27⟩) hHeld ?_
      case h27 => intro u hSw; (try dsimp only at hSw); go_simp; try with_reducible rfl
      try simp only [List.getElem_toArray]
      try simp only [List.getElem_cons_succ]
      try simp only [List.getElem_cons_zero]
      try simp only [Act.put]
      try simp only [List.setIfInBounds_toArray]
      try simp only [List.set]
      refine wpAnyH_take (i := 6) (v := ?v28) rfl (by kernel_rfl) (by kernel_rfl) (by kernel_rfl) (fun _ _ _ h => h) (Or.inl ⟨by kernel_rfl, ?h28⟩) hHeld ?_
      case h28 => intro u hSw; (try dsimp only at hSw); go_simp; try with_reducible rfl
      try simp only [List.getElem_toArray]
      try simp only [List.getElem_cons_succ]
      try simp only [List.getElem_cons_zero]
      try simp only [Act.put]
      try simp only [List.setIfInBounds_toArray]
      try simp only [List.set]
      refine wpAnyH_take (i := 7) (v := ?v29) rfl (by kernel_rfl) (by kernel_rfl) (by kernel_rfl) (fun _ _ _ h => h) (Or.inl ⟨by kernel_rfl, ?h29⟩) hHeld ?_
      case h29 => intro u hSw; (try dsimp only at hSw); go_simp; try with_reducible rfl
      try simp only [List.getElem_toArray]
      try simp only [List.getElem_cons_succ]
      try simp only [List.getElem_cons_zero]
      try simp only [Act.put]
      try simp only [List.setIfInBounds_toArray]
      try simp only [List.set]
      refine wpAnyH_take (i := 8) (v := ?v30) rfl (by kernel_rfl) (by kernel_rfl) (by kernel_rfl) (fun _ _ _ h => h) (Or.inl ⟨by kernel_rfl, ?h30⟩) hHeld ?_
      case h30 => intro u hSw; obtain ⟨c3, e0, e1, _⟩ := hSw; go_simp; try with_reducible rfl
      try simp only [List.getElem_toArray]
      try simp only [List.getElem_cons_succ]
      try simp only [List.getElem_cons_zero]
      try simp only [Act.put]
      try simp only [List.setIfInBounds_toArray]
      try simp only [List.set]
      refine wpAnyH_take (i := 9) (v := ?v31) rfl (by kernel_rfl) (by kernel_rfl) (by kernel_rfl) (fun _ _ _ h => h) (Or.inl ⟨by kernel_rfl, ?h31⟩) hHeld ?_
      case h31 => intro u hSw; (try dsimp only at hSw); go_simp; try with_reducible rfl
      try simp only [List.getElem_toArray]
      try simp only [List.getElem_cons_succ]
      try simp only [List.getElem_cons_zero]
      try simp only [Act.put]
      try simp only [List.setIfInBounds_toArray]
      try simp only [List.set]
      refine wpAnyH_take (i := 10) (v := ?v32) rfl (by kernel_rfl) (by kernel_rfl) (by kernel_rfl) (fun _ _ _ h => h) (Or.inl ⟨by kernel_rfl, ?h32⟩) hHeld ?_
      case h32 => intro u hSw; (try dsimp only at hSw); go_simp; try with_reducible rfl
      try simp only [List.getElem_toArray]
      try simp only [List.getElem_cons_succ]
      try simp only [List.getElem_cons_zero]
      try simp only [Act.put]
      try simp only [List.setIfInBounds_toArray]
      try simp only [List.set]
      refine wpAnyH_take (i := 11) (v := ?v33) rfl (by kernel_rfl) (by kernel_rfl) (by kernel_rfl) (fun _ _ _ h => h) (Or.inl ⟨by kernel_rfl, ?h33⟩) hHeld ?_
      case h33 => intro u hSw; (try dsimp only at hSw); go_simp; try with_reducible rfl
      try simp only [List.getElem_toArray]
      try simp only [List.getElem_cons_succ]
      try simp only [List.getElem_cons_zero]
      try simp only [Act.put]
      try simp only [List.setIfInBounds_toArray]
      try simp only [List.set]
      refine wpAnyH_take (i := 12) (v := ?v34) rfl (by kernel_rfl) (by kernel_rfl) (by kernel_rfl) (fun _ _ _ h => h) (Or.inl ⟨by kernel_rfl, ?h34⟩) hHeld ?_
      case h34 => intro u hSw; (try dsimp only at hSw); go_simp; try with_reducible rfl
      try simp only [List.getElem_toArray]
      try simp only [List.getElem_cons_succ]
      try simp only [List.getElem_cons_zero]
      try simp only [Act.put]
      try simp only [List.setIfInBounds_toArray]
      try simp only [List.set]
      refine wpAnyH_take (i := 13) (v := ?v35) rfl (by kernel_rfl) (by kernel_rfl) (by kernel_rfl) (fun _ _ _ h => h) (Or.inl ⟨by kernel_rfl, ?h35⟩) hHeld ?_
      case h35 => intro u hSw; obtain ⟨c3, e0, e1, _⟩ := hSw; go_simp; try with_reducible rfl
      try simp only [List.getElem_toArray]
      try simp only [List.getElem_cons_succ]
      try simp only [List.getElem_cons_zero]
      try simp only [Act.put]
      try simp only [List.setIfInBounds_toArray]
      try simp only [List.set]
      refine wpAnyH_take (i := 14) (v := ?v36) rfl (by kernel_rfl) (by kernel_rfl) (by kernel_rfl) (fun _ _ _ h => h) (Or.inl ⟨by kernel_rfl, ?h36⟩) hHeld ?_
      case h36 => intro u hSw; (try dsimp only at hSw); go_simp; try with_reducible rfl
      try simp only [List.getElem_toArray]
      try simp only [List.getElem_cons_succ]
      try simp only [List.getElem_cons_zero]
      try simp only [Act.put]
      try simp only [List.setIfInBounds_toArray]
      try simp only [List.set]
      refine wpAnyH_take (i := 15) (v := ?v37) rfl (by kernel_rfl) (by kernel_rfl) (by kernel_rfl) (fun _ _ _ h => h) (Or.inl ⟨by kernel_rfl, ?h37⟩) hHeld ?_
      case h37 => intro u hSw; (try dsimp only at hSw); go_simp; try with_reducible rfl
      try simp only [List.getElem_toArray]
      try simp only [List.getElem_cons_succ]
      try simp only [List.getElem_cons_zero]
      try simp only [Act.put]
      try simp only [List.setIfInBounds_toArray]
      try simp only [List.set]
      refine wpAnyH_take (i := 16) (v := ?v38) rfl (by kernel_rfl) (by kernel_rfl) (by kernel_rfl) (fun _ _ _ h => h) (Or.inl ⟨by kernel_rfl, ?h38⟩) hHeld ?_
      case h38 => intro u hSw; (try dsimp only at hSw); go_simp; try with_reducible rfl
      try simp only [List.getElem_toArray]
      try simp only [List.getElem_cons_succ]
      try simp only [List.getElem_cons_zero]
      try simp only [Act.put]
      try simp only [List.setIfInBounds_toArray]
      try simp only [List.set]
      refine wpAnyH_take (i := 17) (v := ?v39) rfl (by kernel_rfl) (by kernel_rfl) (by kernel_rfl) (fun _ _ _ h => h) (Or.inl ⟨by kernel_rfl, ?h39⟩) hHeld ?_
      case h39 => intro u hSw; obtain ⟨c3, e0, e1, _⟩ := hSw; go_simp; try with_reducible rfl
      try simp only [List.getElem_toArray]
      try simp only [List.getElem_cons_succ]
      try simp only [List.getElem_cons_zero]
      try simp only [Act.put]
      try simp only [List.setIfInBounds_toArray]
      try simp only [List.set]
      refine wpAnyH_take (i := 18) (v := ?v40) rfl (by kernel_rfl) (by kernel_rfl) (by kernel_rfl) (fun _ _ _ h => h) (Or.inl ⟨by kernel_rfl, ?h40⟩) hHeld ?_
      case h40 => intro u hSw; (try dsimp only at hSw); go_simp; try with_reducible rfl
      try simp only [List.getElem_toArray]
      try simp only [List.getElem_cons_succ]
      try simp only [List.getElem_cons_zero]
      try simp only [Act.put]
      try simp only [List.setIfInBounds_toArray]
      try simp only [List.set]
      refine wpAnyH_take (i := 19) (v := ?v41) rfl (by kernel_rfl) (by kernel_rfl) (by kernel_rfl) (fun _ _ _ h => h) (Or.inl ⟨by kernel_rfl, ?h41⟩) hHeld ?_
      case h41 => intro u hSw; (try dsimp only at hSw); go_simp; try with_reducible rfl
      try simp only [List.getElem_toArray]
      try simp only [List.getElem_cons_succ]
      try simp only [List.getElem_cons_zero]
      try simp only [Act.put]
      try simp only [List.setIfInBounds_toArray]
      try simp only [List.set]
      refine wpAnyH_take (i := 22) (v := ?v42) rfl (by kernel_rfl) (by kernel_rfl) (by kernel_rfl) (fun _ _ _ h => h) (Or.inl ⟨by kernel_rfl, ?h42⟩) hHeld ?_
      case h42 => intro u hSw; (try dsimp only at hSw); go_simp; try with_reducible rfl
      try simp only [List.getElem_toArray]
      try simp only [List.getElem_cons_succ]
      try simp only [List.getElem_cons_zero]
      try simp only [Act.put]
      try simp only [List.setIfInBounds_toArray]
      try simp only [List.set]
      refine wpAnyH_take (i := 23) (v := ?v43) rfl (by kernel_rfl) (by kernel_rfl) (by kernel_rfl) (fun _ _ _ h => h) (Or.inl ⟨by kernel_rfl, ?h43⟩) hHeld ?_
      case h43 => intro u hSw; (try dsimp only at hSw); go_simp; try with_reducible rfl
      try simp only [List.getElem_toArray]
      try simp only [List.getElem_cons_succ]
      try simp only [List.getElem_cons_zero]
      try simp only [Act.put]
      try simp only [List.setIfInBounds_toArray]
      try simp only [List.set]
      refine wpAnyH_take (i := 24) (v := ?v44) rfl (by kernel_rfl) (by kernel_rfl) (by kernel_rfl) (fun _ _ _ h => h) (Or.inl ⟨by kernel_rfl, ?h44⟩) hHeld ?_
      case h44 => intro u hSw; (try dsimp only at hSw); go_simp; try with_reducible rfl
      try simp only [List.getElem_toArray]
      try simp only [List.getElem_cons_succ]
      try simp only [List.getElem_cons_zero]
      try simp only [Act.put]
      try simp only [List.setIfInBounds_toArray]
      try simp only [List.set]
      refine wpAnyH_take (i := 25) (v := ?v45) rfl (by kernel_rfl) (by kernel_rfl) (by kernel_rfl) (fun _ _ _ h => h) (Or.inl ⟨by kernel_rfl, ?h45⟩) hHeld ?_
      case h45 => intro u hSw; obtain ⟨c3, e0, e1, _⟩ := hSw; go_simp; try with_reducible rfl
      try simp only [List.getElem_toArray]
      try simp only [List.getElem_cons_succ]
      try simp only [List.getElem_cons_zero]
      try simp only [Act.put]
      try simp only [List.setIfInBounds_toArray]
      try simp only [List.set]
      refine wpAnyH_take (i := 26) (v := ?v46) rfl (by kernel_rfl) (by kernel_rfl) (by kernel_rfl) (fun _ _ _ h => h) (Or.inl ⟨by kernel_rfl, ?h46⟩) hHeld ?_
      case h46 => intro u hSw; (try dsimp only at hSw); go_simp; try with_reducible rfl
      try simp only [List.getElem_toArray]
      try simp only [List.getElem_cons_succ]
      try simp only [List.getElem_cons_zero]
      try simp only [Act.put]
      try simp only [List.setIfInBounds_toArray]
      try simp only [List.set]
      refine wpAnyH_take (i := 27) (v := ?v47) rfl (by kernel_rfl) (by kernel_rfl) (by kernel_rfl) (fun _ _ _ h => h) (Or.inl ⟨by kernel_rfl, ?h47⟩) hHeld ?_
      case h47 => intro u hSw; (try dsimp only at hSw); go_simp; try with_reducible rfl
      try simp only [List.getElem_toArray]
      try simp only [List.getElem_cons_succ]
      try simp only [List.getElem_cons_zero]
      try simp only [Act.put]
      try simp only [List.setIfInBounds_toArray]
      try simp only [List.set]
      refine wpAnyH_take (i := 28) (v := ?v48) rfl (by kernel_rfl) (by kernel_rfl) (by kernel_rfl) (fun _ _ _ h => h) (Or.inl ⟨by kernel_rfl, ?h48⟩) hHeld ?_
      case h48 => intro u hSw; (try dsimp only at hSw); go_simp; try with_reducible rfl
      try simp only [List.getElem_toArray]
      try simp only [List.getElem_cons_succ]
      try simp only [List.getElem_cons_zero]
      try simp only [Act.put]
      try simp only [List.setIfInBounds_toArray]
      try simp only [List.set]
      refine wpAnyH_take (i := 29) (v := ?v49) rfl (by kernel_rfl) (by kernel_rfl) (by kernel_rfl) (fun _ _ _ h => h) (Or.inl ⟨by kernel_rfl, ?h49⟩) hHeld ?_
      case h49 => intro u hSw; obtain ⟨c3, e0, e1, _⟩ := hSw; go_simp; try with_reducible rfl
      try simp only [List.getElem_toArray]
      try simp only [List.getElem_cons_succ]
      try simp only [List.getElem_cons_zero]
      try simp only [Act.put]
      try simp only [List.setIfInBounds_toArray]
      try simp only [List.set]
      have gD := hHeld.g
      have hDs := gD.size
      have gb : Below D.heap.size D (D.alloc (.cells #[.int .u8 (p % 256), .int .u8 l] 5)) := by go_grown
      have hGb := hG.grown gb
      refine wpAnyH_ready (rs := [20]) (by kernel_rfl) (by simp) ?_
      refine AllReadyH.cons rfl (fun K hK => ?_) AllReadyH.nil
      go_simp
      refine hK.out _ _ (HLp.out _ (gD.alloc hDs _)) (fun hHeld => ?_)
      clear hK K
      try simp only [Act.put]
      try simp only [List.setIfInBounds_toArray]
      try simp only [List.set]
      refine wpAnyH_ready (rs := [21]) (by kernel_rfl) (by simp) ?_
      refine AllReadyH.cons rfl (fun K hK => ?_) AllReadyH.nil
      rw [if_pos (by kernel_rfl)]
      refine wp_append_own _ _ _ 22 rfl w.heap.size 5 i0 (.int .u8 0) 1 1 Tryd.underlying22 hi0 hz0 hz1 hz2 rfl (by decide) _ _ _ rfl hGb ⟨D.heap.size, 0, none⟩ 2 2 ([p % 256, (l : Int)].map (Value.int .u8)) rfl rfl (news_at (fun i hi => by
        match i, hi with
        | 0, _ => simp [go_sem]
        | 1, _ => simp [go_sem])) (ones _) (by unfold maxLen; omega) (by omega) (by simp; omega) ?_
      intro v6 w6 hown' hgrow _
      have hG6 : Gb w.heap.size w6 v6 (xs ++ [p % 256, (l : Int)]) := by unfold Gb; simpa using hown'
      have g6 : Below w.heap.size w w6 := Below.grown (gD.alloc hDs _) hgrow (by simp; omega) (fun q e => (World.ownsRow.lt hGb q e).1)
      have hw6 := g6.size
      refine hK.out _ _ (HLp.out _ g6) (fun hHeld => ?_)
      clear hK K hown' hgrow hG hGb gb
      try simp only [Act.put]
      try simp only [List.setIfInBounds_toArray]
      try simp only [List.set]
      refine wpAnyH_ready (rs := [30]) (by kernel_rfl) (by simp) ?_
      refine AllReadyH.cons rfl (fun K hK => ?_) AllReadyH.nil
      rw [if_pos (by kernel_rfl)]
      refine wp_append_own _ _ _ 22 rfl w.heap.size 5 i0 (.int .u8 0) 1 1 Tryd.underlying22 hi0 hz0 hz1 hz2 rfl (by decide) _ _ _ rfl hG6 ⟨ab, ao, none⟩ l (C j) (zs.map (Value.int .u8)) rfl (by rw [List.length_map, HL.out, Nat.mul_one]) (news_at (HBy.out w6 g6)) (ones _) (by unfold maxLen; simp; omega) (by simp; omega) hw6 ?_
      intro v7 w7 hown7 hgrow7 _
      have hG7 : Gb w.heap.size w7 v7 (recB0 k tx pg n (j + 1) P Z) := by
        unfold Gb
        rw [HS.out]
        have h7 := hown7
        simp [HL.out] at h7 ⊢
        rw [show xs.length + (l + 1 + 1) = xs.length + 2 + l by omega]
        exact h7
      have g7 : Below w.heap.size w w7 := Below.grown g6 hgrow7 hw6 (fun q e => (World.ownsRow.lt hG6 q e).1)
      refine hK.out _ _ (HLp.out _ g7) (fun hHeld => ?_)
      clear hK K hown7 hgrow7 hG6
      try simp only [Act.put]
      try simp only [List.setIfInBounds_toArray]
      try simp only [List.set]
      refine wpAnyH_take (i := 31) (v := ?v51) rfl (by kernel_rfl) (by kernel_rfl) (by kernel_rfl) (fun _ _ _ h => h) (Or.inl ⟨by kernel_rfl, ?h51⟩) hHeld ?_
      case h51 => intro u hSw; (try dsimp only at hSw); go_simp; try with_reducible rfl
      try simp only [List.getElem_toArray]
      try simp only [List.getElem_cons_succ]
      try simp only [List.getElem_cons_zero]
      try simp only [Act.put]
      try simp only [List.setIfInBounds_toArray]
      try simp only [List.set]
      refine wpAnyH_done (by kernel_rfl) ?_ _
      clear hHeld
      go_wp2_with fail
      go_roundw
      case rel => exact ⟨j + 1, by omega, by go_num, hG7, g7⟩
      case measure => simp [intOf]; omega
    · have e : j = n := by omega
      subst e
      have hlen := recB0_len k tx pg j j P Z
      have hlen1 := recB1_len k tx pg j P Z
      have htot := HO.out.tot
      obtain ⟨gb, cap, hv, hle, hb0⟩ := hG.form (by omega)
      subst hv
      have c0 : wr.cell? ⟨gb, 0, none⟩ = some (.int .u8 0) := by rw [World.ownsRow.cellAt hG 0 (by omega)]; rfl
      have f0 : wr.frozen? ⟨gb, 0, none⟩ = false := World.ownsRow.frozenAt hG 0
      have hst := (World.ownsRow.stored hG 0 (.int .u8 (((recB0 k tx pg j j P Z).length : Int) + 2))).1
      have hgs := g.setCell (p := ⟨gb, 0, none⟩) hb0 (.int .u8 (((recB0 k tx pg j j P Z).length : Int) + 2))
      have hG1 : Gb w.heap.size (wr.setCell ⟨gb, 0, none⟩ (.int .u8 (((recB0 k tx pg j j P Z).length : Int) + 2))) (.slice (some ⟨gb, 0, none⟩) (recB1 k tx pg j P Z).length cap) (recB1 k tx pg j P Z) := by
        unfold Gb
        rw [hlen1, ← hlen]
        unfold recB1
        rw [List.map_set]
        exact hst
      have HS : Hid (packB k tx pg j P Z = recB1 k tx pg j P Z ++ [((sumN (recB1 k tx pg j P Z) (recB1 k tx pg j P Z).length / 256 : Nat) : Int), ((sumN (recB1 k tx pg j P Z) (recB1 k tx pg j P Z).length % 256 : Nat) : Int)]) := rfl
      have HB : Hid (∀ z ∈ recB1 k tx pg j P Z, 0 ≤ z ∧ z ≤ 255) := recB1_bd HO.out.few htot HO.out.both
      have hsl := sumN_lt (recB1 k tx pg j P Z) (recB1 k tx pg j P Z).length
      obtain ⟨xs, hxs⟩ : ∃ xs, xs = recB1 k tx pg j P Z := ⟨_, rfl⟩
      obtain ⟨L, hL⟩ : ∃ L, L = xs.length := ⟨_, rfl⟩
      have hLL : (recB0 k tx pg j j P Z).length = L := by rw [hL, hxs, hlen1, hlen]
      rw [← hxs] at hG1 HS HB hsl
      rw [← hL] at hG1 HS hsl
      rw [hLL] at hgs hG1 hle ⊢
      have HLx : Hid (xs.length = L) := hL.symm
      have hLb : L + 2 ≤ 255 := by omega
      have hL0 : 0 < L := by omega
      have hL1 : (0 : Int) < (L : Int) := by omega
      clear hst hlen hlen1 htot hxs hL hG g hLL
      go_upto_region 7 with (fail)
      clear c0 f0 c3
      generalize World.setCell wr _ _ = V at hG1 hgs ⊢
      go_wp2_with fail
      refine (l4Sum_any (some ⟨gb, 0, none⟩) L cap xs _ HLx.out (by omega) (by have h := hG1; rw [← HLx.out] at h; exact h.bytes.reads) HB.out).mono ?_
      rintro e w8 ⟨rfl, hw8⟩
      subst w8
      obtain ⟨sm, hsm⟩ : ∃ sm, sm = sumN xs L := ⟨_, rfl⟩
      rw [← hsm] at HS hsl ⊢
      clear hsm
      have hws := hgs.size
      have hGL : V.ownsRow w.heap.size 5 1 (.slice (some ⟨gb, 0, none⟩) L cap) L (xs.map (Value.int .u8)) := by
        have h := hG1
        unfold Gb at h
        rw [HLx.out] at h
        exact h
      go_wp2_with (at_builtin; refine wpList_append_own _ rfl _ _ 22 rfl w.heap.size 5 i0 (.int .u8 0) 1 1 Tryd.underlying22 hi0 hz0 hz1 hz2 rfl (by decide) _ _ _ rfl (World.ownsRow.alloc hGL _) ⟨V.heap.size, 0, none⟩ 2 2 ([(sm : Int) / 256, (sm : Int) % 256].map (Value.int .u8)) rfl rfl ?n1 (ones _) ?n3 ?n4 ?n5 ?_)
      case n1 => exact news_at (fun i hi => by
        match i, hi with
        | 0, _ => simp [go_sem]
        | 1, _ => simp [go_sem])
      case n3 => unfold maxLen; omega
      case n4 => omega
      case n5 => simp; omega
      intro v' w9 hown' hgrow _
      have hG9 : Gb w.heap.size w9 v' (packB k tx pg j P Z) := by
        unfold Gb
        rw [HS.out]
        have h9 := hown'
        simp [HLx.out] at h9 ⊢
        exact h9
      have g9 : Below w.heap.size w w9 := Below.grown (hgs.alloc hws _) hgrow (by simp; omega) (fun q e => (World.ownsRow.lt hGL q e).1)
      obtain ⟨gb9, cap9, hv9, hle9, _⟩ := hG9.form (by rw [HS.out]; simp)
      subst hv9
      clear hown' hgrow hG1 hGL hgs hws
      go_wp2_with fail
      go_ret
      exact ⟨gb9, cap9, rfl, hle9, g9, hG9.bytes, hG9⟩

theorem l4Pack_any (b : Nat) (k tx pg : Int) (a : Option Addr) (n c : Nat) (P : Nat → Int) (A : Nat → Option Addr) (C : Nat → Nat) (Z : Nat → List Int) (w : World) (ho : RunsOk n Z) (hr : RunsRead w a n P A C Z) (h : RcAt w b k tx pg a n c) :
    Calls Tryd.prog 23 #[.pointer (some ⟨b, 0, none⟩)] w fun e w' => ∃ g d, e = .returned (.slice (some ⟨g, 0, none⟩) (packB k tx pg n P Z).length d) ∧ (packB k tx pg n P Z).length ≤ d ∧ Below w.heap.size w w' ∧ BytesIn w.heap.size w'.heap.size w' (some ⟨g, 0, none⟩) (packB k tx pg n P Z) := by
  refine (l4PackG_any b k tx pg a n c P A C Z w ho hr h).mono ?_
  rintro e w' ⟨g, d, h1, h2, h3, h4, _⟩
  exact ⟨g, d, h1, h2, h3, h4⟩

end Go.Proofs.YtcjkjenebnodbaaDoor
