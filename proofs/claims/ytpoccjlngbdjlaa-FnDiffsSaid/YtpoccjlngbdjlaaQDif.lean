/-
  The contract of the program's DiffBytes.
-/
import Derived.Test.YtpoccjlngbdjlaaQTsp
import Derived.Test.YtpoccjlngbdjlaaQInv

namespace Go.Proofs.Ytpoccjlngbdjlaa
open Go.RowKit Go.Shelf
set_option linter.unusedVariables false

theorem dS_half (za zb : List Int) (k : Nat) (hk : k ≤ 65) : 2 * (dS za zb k).length + k ≤ 66 := by
  rw [dS]
  split
  · rename_i h
    have hl := rl_le za zb k (Nat.le_of_lt h)
    split
    · rename_i h1
      have := dS_half za zb (k + rl za zb k + 1) (by omega)
      simp only [List.length_cons]
      omega
    · have := dS_half za zb (k + 1) (by omega)
      omega
  · simp; omega
termination_by 64 - k
decreasing_by all_goals omega

/-- What DiffBytes answers: its code, how many runs. -/
def dfQ (za zb : List Int) : Int := if za.length = 64 ∧ zb.length = 64 then 0 else 1
def dfN (za zb : List Int) : Nat := if za.length = 64 ∧ zb.length = 64 then (dS za zb 0).length else 0

/-- A whole page is read, in a region that draws its order. -/
theorem yieldsIf_loadPg {ops : Array Oper} {S : World → Prop} {op : Oper} {a : Act} (hw : Region.wanted op (yielded ops a.tmps) = true) (x : Operand) (ho : op.op = .load 58 x)
    (b : Nat) (hx : a.eval x = .pointer (some ⟨b, 0, none⟩)) (zs : List Int) (hS : ∀ w, S w → Arr w b zs) : YieldsIf Try.prog ops S op (.agg (pgC zs)) a :=
  .inl ⟨hw, fun w hw' => by
    unfold execOp
    simp only [ho, hx, Instr.loadAt, Instr.sureAddr, Sem.run_bind, Sem.run_pure, Result.andThen_ok, run_loadVar_row w b 58 58 (pgC zs) (0, 0) _ (hS w hw').row Try.underlying58 rfl (by rw [pgC_size, (hS w hw').len]; exact info58)]⟩

theorem turned_row {w : World} {g : Nat} (cs : Array Value) : Turned g (g + 1) w (w.setRow g cs) := ⟨rfl, rfl, rfl, by rw [setRow_size]; exact Nat.le_refl _, fun k hk hn => setRow_other _ g k _ (by omega)⟩
theorem ivTurn {w W V : World} {x : Nat} (h : IvS w W) (ht : Turned x (x + 1) W V) (hn : w.heap.size + 1 ≤ x) : IvS w V := by
  obtain ⟨⟨v, h1⟩, h0, f0, f1, g⟩ := h
  exact ⟨⟨v, ht.cell h1 (.inl (by simp only; omega))⟩, ht.cell h0 (.inl (by simp only; omega)), (ht.frozen h0 (.inl (by simp only; omega))).trans f0, (ht.frozen h1 (.inl (by simp only; omega))).trans f1, g.trans (ht.toBelow g.size (by omega))⟩
theorem dfKeep {w W V : World} {x y : Nat} {za zb : List Int} (h : Arr W x za ∧ Arr W y zb ∧ IvS w W) (hb : Below W.heap.size W V) : Arr V x za ∧ Arr V y zb ∧ IvS w V := ⟨h.1.grown hb, h.2.1.grown hb, ivKeep h.2.2 hb⟩

set_option maxHeartbeats 8000000 in
theorem implDiffBytes_any (a : Option Addr) (za : List Int) (n1 c1 : Nat) (b : Option Addr) (zb : List Int) (n2 c2 : Nat) (w : World) (h1 : za.length = n1) (h2 : zb.length = n2) (hm1 : n1 ≤ 1048576) (hm2 : n2 ≤ 1048576) (ha : Reads w a za) (hb : Reads w b zb) (hza : ∀ z ∈ za, 0 ≤ z ∧ z ≤ 255) (hzb : ∀ z ∈ zb, 0 ≤ z ∧ z ≤ 255) :
    Calls Try.prog 10 #[.slice a n1 c1, .slice b n2 c2] w fun e w' => ∃ a' c' A' C' F', e = .returned (.agg #[.int .i64 (dfQ za zb), .slice a' (dfN za zb) c']) ∧ Below w.heap.size w w' ∧ OwnS w.heap.size w'.heap.size w' a' (dfN za zb) (spP (dS za zb 0)) A' C' (spZ zb (dS za zb 0)) F' := by
  have hX : BRes (w.alloc (.cells #[.int .i64 0, .slice none 0 0] 28)) w.heap.size 0 (.slice none 0 0) := ⟨by simp [go_sem], by simp [go_sem], by simp [go_sem], by simp [go_sem]⟩
  have g : Below w.heap.size w (w.alloc (.cells #[.int .i64 0, .slice none 0 0] 28)) := by go_grown
  have HA : Hid (Reads w a za) := ha
  have HB2 : Hid (Reads w b zb) := hb
  clear ha hb
  by_cases hq : za.length = 64 ∧ zb.length = 64
  · have HB : Hid (dfQ za zb = 0 ∧ dfN za zb = (dS za zb 0).length) := by constructor <;> simp only [dfQ, dfN] <;> rw [if_pos hq]
    obtain ⟨n, hn⟩ : ∃ n, n = (dS za zb 0).length := ⟨_, rfl⟩
    rw [← hn] at HB
    have HN : Hid ((dS za zb 0).length = n) := hn.symm
    obtain ⟨ha64, hb64⟩ := hq
    obtain rfl : n1 = 64 := h1.symm.trans ha64
    obtain rfl : n2 = 64 := h2.symm.trans hb64
    have HLa : Hid (za.length = 64) := ha64
    have HLb : Hid (zb.length = 64) := hb64
    obtain ⟨b0, off0, rfl⟩ : ∃ b off, a = some ⟨b, off, none⟩ := by
      rcases HA.out with h0 | ⟨b, off, hb, _⟩
      · rw [h0] at ha64; simp at ha64
      · exact ⟨b, off, hb⟩
    obtain ⟨b1, off1, rfl⟩ : ∃ bq off, b = some ⟨bq, off, none⟩ := by
      rcases HB2.out with h0 | ⟨bq, off, hb, _⟩
      · rw [h0] at hb64; simp at hb64
      · exact ⟨bq, off, hb⟩
    have HInA : Hid ((Try.prog.info? 58).map (·.size) = some (za.map (Value.int .u8)).length) := by show _ = _; rw [List.length_map, ha64]; exact info58
    have HInB : Hid ((Try.prog.info? 58).map (·.size) = some (zb.map (Value.int .u8)).length) := by show _ = _; rw [List.length_map, hb64]; exact info58
    clear h1 h2 ha64 hb64 hn
    obtain ⟨X, hX0⟩ : ∃ X, w.alloc (.cells #[.int .i64 0, .slice none 0 0] 28) = X := ⟨_, rfl⟩
    rw [hX0] at hX g
    go_enter Try.func10, Try.ntmps10
    go_upto_region 3 with (fail)
    clear hX0
    refine wp_region_held_drew (S := fun V' => (∃ v : Value, V'.cell? ⟨w.heap.size, 1, none⟩ = some v) ∧ V'.cell? ⟨w.heap.size, 0, none⟩ = some (.int .i64 0) ∧ V'.frozen? ⟨w.heap.size, 0, none⟩ = false ∧ V'.frozen? ⟨w.heap.size, 1, none⟩ = false ∧ Below w.heap.size w V') (by kernel_rfl) (ivKeep ⟨⟨_, hX.c1⟩, hX.c0, hX.f0, hX.f1, g⟩ (Below.refl _ _).drew) (fun hHeld => ?_)
    clear hX g
    generalize X.drew = D at hHeld ⊢
    refine wpAnyH_take (i := 0) (v := .slice (some ⟨b0, off0, none⟩) 64 c1) rfl (by kernel_rfl) (by kernel_rfl) (by kernel_rfl) (fun _ _ _ h => h) (Or.inl ⟨by kernel_rfl, fun u hSw => by (try dsimp only at hSw); go_simp; try with_reducible rfl⟩) hHeld ?_
    try simp only [List.getElem_toArray]
    try simp only [List.getElem_cons_succ]
    try simp only [List.getElem_cons_zero]
    try simp only [Act.put]
    try simp only [List.setIfInBounds_toArray]
    try simp only [List.set]
    refine wpAnyH_take (i := 1) (v := .pointer (some ⟨b0, off0, none⟩)) rfl (by kernel_rfl) (by kernel_rfl) (by kernel_rfl) (fun _ _ _ h => h) (yieldsIf_arrayAt (by kernel_rfl) _ rfl (some ⟨b0, off0, none⟩) c1 rfl) hHeld ?_
    try simp only [List.getElem_toArray]
    try simp only [List.getElem_cons_succ]
    try simp only [List.getElem_cons_zero]
    try simp only [Act.put]
    try simp only [List.setIfInBounds_toArray]
    try simp only [List.set]
    refine wpAnyH_take (i := 2) (v := .agg (pgC za)) rfl (by kernel_rfl) (by kernel_rfl) (by kernel_rfl) (fun _ _ _ h => h) (yieldsIf_load_mid (by kernel_rfl) 58 _ rfl b0 off0 rfl (za.map (Value.int .u8)) _ (fun W hS => (HA.out.below hS.2.2.2.2 (Nat.le_refl _)).range) Try.underlying58 rfl HInA.out) hHeld ?_
    try simp only [List.getElem_toArray]
    try simp only [List.getElem_cons_succ]
    try simp only [List.getElem_cons_zero]
    try simp only [Act.put]
    try simp only [List.setIfInBounds_toArray]
    try simp only [List.set]
    refine wpAnyH_take (i := 3) (v := .slice (some ⟨b1, off1, none⟩) 64 c2) rfl (by kernel_rfl) (by kernel_rfl) (by kernel_rfl) (fun _ _ _ h => h) (Or.inl ⟨by kernel_rfl, fun u hSw => by (try dsimp only at hSw); go_simp; try with_reducible rfl⟩) hHeld ?_
    try simp only [List.getElem_toArray]
    try simp only [List.getElem_cons_succ]
    try simp only [List.getElem_cons_zero]
    try simp only [Act.put]
    try simp only [List.setIfInBounds_toArray]
    try simp only [List.set]
    refine wpAnyH_take (i := 4) (v := .pointer (some ⟨b1, off1, none⟩)) rfl (by kernel_rfl) (by kernel_rfl) (by kernel_rfl) (fun _ _ _ h => h) (yieldsIf_arrayAt (by kernel_rfl) _ rfl (some ⟨b1, off1, none⟩) c2 rfl) hHeld ?_
    try simp only [List.getElem_toArray]
    try simp only [List.getElem_cons_succ]
    try simp only [List.getElem_cons_zero]
    try simp only [Act.put]
    try simp only [List.setIfInBounds_toArray]
    try simp only [List.set]
    refine wpAnyH_take (i := 5) (v := .agg (pgC zb)) rfl (by kernel_rfl) (by kernel_rfl) (by kernel_rfl) (fun _ _ _ h => h) (yieldsIf_load_mid (by kernel_rfl) 58 _ rfl b1 off1 rfl (zb.map (Value.int .u8)) _ (fun W hS => (HB2.out.below hS.2.2.2.2 (Nat.le_refl _)).range) Try.underlying58 rfl HInB.out) hHeld ?_
    try simp only [List.getElem_toArray]
    try simp only [List.getElem_cons_succ]
    try simp only [List.getElem_cons_zero]
    try simp only [Act.put]
    try simp only [List.setIfInBounds_toArray]
    try simp only [List.set]
    have hDs : w.heap.size < D.heap.size := World.block_lt_of_cell? D _ hHeld.2.1
    refine wpAnyH_ready (rs := [6, 7]) (by kernel_rfl) (by simp) ?_
    refine AllReadyH.cons rfl (fun K hK => ?_) (AllReadyH.cons rfl (fun K hK => ?_) AllReadyH.nil)
    ·
      go_simp
      go_wp2_with fail
      have hNx := arr_new D (filled 0 0) rfl
      have gNx : Below D.heap.size D (D.alloc (.cells (pgC (filled 0 0)) 58)) := (Below.refl _ _).alloc (Nat.le_refl _) _
      refine hK.out _ _ (ivKeep hHeld gNx) (fun hHeld => ?_)
      have hHeld : IvS w (D.alloc (.cells (pgC (filled 0 0)) 58)) := hHeld
      have hlsx : D.heap.size < (D.alloc (.cells (pgC (filled 0 0)) 58)).heap.size := by simp
      clear hK K gNx
      try simp only [Act.put]
      try simp only [List.setIfInBounds_toArray]
      try simp only [List.set]
      change wpAnyH _ _ _ _ _ _ _ _ (D.alloc (.cells (pgC (filled 0 0)) 58)) at ⊢
      generalize D.alloc (.cells (pgC (filled 0 0)) 58) = W1 at hHeld hNx hlsx  ⊢
      have hbl : w.heap.size + 1 ≤ D.heap.size := hDs
      generalize D.heap.size = bx at hNx hlsx hbl ⊢
      refine wpAnyH_ready (rs := [7]) (by kernel_rfl) (by simp) ?_
      refine AllReadyH.cons rfl (fun K hK => ?_) AllReadyH.nil
      go_simp
      go_wp2_with fail
      have hNy := arr_new W1 (filled 0 0) rfl
      have gNy : Below W1.heap.size W1 (W1.alloc (.cells (pgC (filled 0 0)) 58)) := (Below.refl _ _).alloc (Nat.le_refl _) _
      refine hK.out _ _ (ivKeep hHeld gNy) (fun hHeld => ?_)
      have hHeld : IvS w (W1.alloc (.cells (pgC (filled 0 0)) 58)) := hHeld
      have hNx := hNx.grown gNy
      have hlsy : W1.heap.size < (W1.alloc (.cells (pgC (filled 0 0)) 58)).heap.size := by simp
      clear hK K gNy
      try simp only [Act.put]
      try simp only [List.setIfInBounds_toArray]
      try simp only [List.set]
      change wpAnyH _ _ _ _ _ _ _ _ (W1.alloc (.cells (pgC (filled 0 0)) 58)) at ⊢
      generalize W1.alloc (.cells (pgC (filled 0 0)) 58) = W2 at hHeld hNy hlsy hNx ⊢
      have hneW : bx < W1.heap.size := hlsx
      generalize W1.heap.size = bn at hNy hlsy hneW ⊢
      have hbx : w.heap.size + 1 ≤ bx := by omega
      have hbn : w.heap.size + 1 ≤ bn := by omega
      have hxy : bx ≠ bn := by omega
      clear hneW hbl hDs hlsx hlsy
      refine wpAnyH_ready (rs := [8]) (by kernel_rfl) (by simp) ?_
      refine AllReadyH.cons rfl (fun K hK => ?_) AllReadyH.nil
      rw [if_pos (by kernel_rfl)]
      refine wp_storePg _ _ rfl bx za rfl rfl HLa.out (filled 0 0) hNx ?_
      have hHeld2 := ivTurn hHeld (turned_row (w := W2) (g := bx) (pgC za)) hbx
      have hNy := hNy.row_other (g := bx) (fun e => hxy e.symm) (pgC za)
      have hNx := hNx.put (ys := za) HLa.out
      refine hK.out _ _ hHeld2 (fun hHeld => ?_)
      clear hK K hHeld2
      try simp only [Act.put]
      try simp only [List.setIfInBounds_toArray]
      try simp only [List.set]
      generalize W2.setRow bx (pgC za) = W3 at hHeld hNx hNy ⊢
      refine wpAnyH_ready (rs := [9]) (by kernel_rfl) (by simp) ?_
      refine AllReadyH.cons rfl (fun K hK => ?_) AllReadyH.nil
      rw [if_pos (by kernel_rfl)]
      refine wp_storePg _ _ rfl bn zb rfl rfl HLb.out (filled 0 0) hNy ?_
      have hHeld2 := ivTurn hHeld (turned_row (w := W3) (g := bn) (pgC zb)) hbn
      have hNx := hNx.row_other (g := bn) hxy (pgC zb)
      have hNy := hNy.put (ys := zb) HLb.out
      refine hK.out _ _ hHeld2 (fun hHeld => ?_)
      clear hK K hHeld2
      try simp only [Act.put]
      try simp only [List.setIfInBounds_toArray]
      try simp only [List.set]
      generalize W3.setRow bn (pgC zb) = W4 at hHeld hNx hNy ⊢
      refine wpAnyH_done (by kernel_rfl) ?_ _
      go_upto_region 4 with (fail)
      refine wp_region_held_drew (S := fun V => Arr V bx za ∧ Arr V bn zb ∧ IvS w V) (by kernel_rfl) (dfKeep ⟨hNx, hNy, hHeld⟩ (Below.refl _ _).drew) (fun hHeld => ?_)
      clear hNx hNy
      generalize W4.drew = D2 at hHeld ⊢
      refine wpAnyH_take (i := 0) (v := .agg (pgC zb)) rfl (by kernel_rfl) (by kernel_rfl) (by kernel_rfl) (fun _ _ _ h => h) (yieldsIf_loadPg (by kernel_rfl) _ rfl bn rfl zb (fun W hS => hS.2.1)) hHeld ?_
      try simp only [List.getElem_toArray]
      try simp only [List.getElem_cons_succ]
      try simp only [List.getElem_cons_zero]
      try simp only [Act.put]
      try simp only [List.setIfInBounds_toArray]
      try simp only [List.set]
      refine wpAnyH_take (i := 1) (v := .agg (pgC za)) rfl (by kernel_rfl) (by kernel_rfl) (by kernel_rfl) (fun _ _ _ h => h) (yieldsIf_loadPg (by kernel_rfl) _ rfl bx rfl za (fun W hS => hS.1)) hHeld ?_
      try simp only [List.getElem_toArray]
      try simp only [List.getElem_cons_succ]
      try simp only [List.getElem_cons_zero]
      try simp only [Act.put]
      try simp only [List.setIfInBounds_toArray]
      try simp only [List.set]
      refine wpAnyH_take (i := 2) (v := .agg (pgC zb)) rfl (by kernel_rfl) (by kernel_rfl) (by kernel_rfl) (fun _ _ _ h => h) (yieldsIf_loadPg (by kernel_rfl) _ rfl bn rfl zb (fun W hS => hS.2.1)) hHeld ?_
      try simp only [List.getElem_toArray]
      try simp only [List.getElem_cons_succ]
      try simp only [List.getElem_cons_zero]
      try simp only [Act.put]
      try simp only [List.setIfInBounds_toArray]
      try simp only [List.set]
      refine wpAnyH_ready (rs := [3]) (by kernel_rfl) (by simp) ?_
      refine AllReadyH.cons rfl (fun K hK => ?_) AllReadyH.nil
      go_simp
      go_wp2_with (go_at_call 37; refine (turnedSpans_any za zb _ HLa.out HLb.out).mono ?_; rintro e w2 ⟨rfl, hb, hA2, hB2⟩)
      refine hK.out _ _ (dfKeep hHeld hb) (fun hHeld => ?_)
      clear hK K
      try simp only [Act.put]
      try simp only [List.setIfInBounds_toArray]
      try simp only [List.set]
      have hbD : D2.heap.size < w2.heap.size := hA2.lt
      have hbD2 : D2.heap.size + 1 < w2.heap.size := hB2.lt
      clear hb
      generalize D2.heap.size = qa at hA2 hB2 hbD hbD2 ⊢
      have hw2 := hHeld.2.2.2.2.2.2.size
      have hw2l : w.heap.size < w2.heap.size := World.block_lt_of_cell? w2 _ hHeld.2.2.2.1
      refine wpAnyH_ready (rs := [4]) (by kernel_rfl) (by simp) ?_
      refine AllReadyH.cons rfl (fun K hK => ?_) AllReadyH.nil
      go_simp
      go_wp2_with (go_at_call 36; refine (runsIn_keeps 56 #[.pointer (some ⟨qa, 0, none⟩), .pointer (some ⟨qa + 1, 0, none⟩)] zb (dS za zb 0) _ HLb.out (by have := dS_half za zb 0 (by omega); omega) (enters_of Try.func56 (by kernel_rfl) rfl) (fun W hW => turned_stops qa (qa + 1) w2.heap.size za zb hza hzb W hW.size hbD hbD2 (hA2.below hW hbD) (hB2.below hW hbD2))).mono ?_; rintro e w3 ⟨a3, c3, A3, C3, F3, rfl, hb, ho⟩; rw [HN.out])
      refine hK.out _ _ (dfKeep hHeld hb) (fun hHeld => ?_)
      clear hK K
      try simp only [Act.put]
      try simp only [List.setIfInBounds_toArray]
      try simp only [List.set]
      rw [HN.out] at ho
      clear hb hA2 hB2
      refine wpAnyH_take (i := 5) (v := .agg #[.int .i64 0, .slice a3 n c3]) rfl (by kernel_rfl) (by kernel_rfl) (by kernel_rfl) (fun _ _ _ h => h) (Or.inl ⟨by kernel_rfl, fun u hSw => by (try dsimp only at hSw); go_simp; try with_reducible rfl⟩) hHeld ?_
      try simp only [List.getElem_toArray]
      try simp only [List.getElem_cons_succ]
      try simp only [List.getElem_cons_zero]
      try simp only [Act.put]
      try simp only [List.setIfInBounds_toArray]
      try simp only [List.set]
      refine wpAnyH_ready (rs := [6]) (by kernel_rfl) (by simp) ?_
      refine AllReadyH.cons rfl (fun K hK => ?_) AllReadyH.nil
      obtain ⟨hAx, hAy, ⟨v, e1⟩, e0, f0, f1, g⟩ := id hHeld
      have hgs := g.size
      go_simp
      go_wp2_with fail
      generalize hV : World.setCell (World.setCell _ _ _) _ _ = V
      have c0 : V.cell? ⟨w.heap.size, 0, none⟩ = some (.int .i64 0) := by rw [← hV]; simp [go_sem, e0]
      have c1 : V.cell? ⟨w.heap.size, 1, none⟩ = some (.slice a3 n c3) := by rw [← hV]; simp [go_sem, e1]
      have gV : Below w.heap.size w V := by rw [← hV]; exact (g.setCell (Nat.le_refl _) _).setCell (Nat.le_refl _) _
      have tV : Turned w.heap.size (w.heap.size + 1) w3 V := by rw [← hV]; exact ((Turned.refl _ _ _).setCell (p := ⟨w.heap.size, 0, none⟩) (Nat.le_refl _) (Nat.lt_succ_self _) _).setCell (p := ⟨w.heap.size, 1, none⟩) (Nat.le_refl _) (Nat.lt_succ_self _) _
      have hoV : OwnS w.heap.size V.heap.size V a3 n (spP (dS za zb 0)) A3 C3 (spZ zb (dS za zb 0)) F3 := (ho.turned tV (.inr hw2l)).mono hw2 tV.size
      have hHeld : Arr V bx za ∧ Arr V bn zb ∧ IvS w V := ⟨hAx.turned tV (.inr hbx), hAy.turned tV (.inr hbn), ⟨_, c1⟩, c0, by rw [← hV, World.frozen?_setCell, World.frozen?_setCell]; exact f0, by rw [← hV, World.frozen?_setCell, World.frozen?_setCell]; exact f1, gV⟩
      clear hV e0 e1 f0 f1 g ho tV hAx hAy
      refine hK.out _ _ hHeld (fun hHeld => ?_)
      clear hK K
      refine wpAnyH_done (by kernel_rfl) ?_ _
      go_wp2_with fail
      refine bodyPost_ret (v := .agg #[.int .i64 0, .slice a3 n c3]) (by simp [results, Try.results10, go_sem, c0, c1]) rfl ?_
      exact ⟨a3, c3, A3, C3, F3, by rw [HB.out.1, HB.out.2], gV, by rw [HB.out.2]; exact hoV⟩
    ·
      go_simp
      go_wp2_with fail
      have hNy := arr_new D (filled 0 0) rfl
      have gNy : Below D.heap.size D (D.alloc (.cells (pgC (filled 0 0)) 58)) := (Below.refl _ _).alloc (Nat.le_refl _) _
      refine hK.out _ _ (ivKeep hHeld gNy) (fun hHeld => ?_)
      have hHeld : IvS w (D.alloc (.cells (pgC (filled 0 0)) 58)) := hHeld
      have hlsy : D.heap.size < (D.alloc (.cells (pgC (filled 0 0)) 58)).heap.size := by simp
      clear hK K gNy
      try simp only [Act.put]
      try simp only [List.setIfInBounds_toArray]
      try simp only [List.set]
      change wpAnyH _ _ _ _ _ _ _ _ (D.alloc (.cells (pgC (filled 0 0)) 58)) at ⊢
      generalize D.alloc (.cells (pgC (filled 0 0)) 58) = W1 at hHeld hNy hlsy  ⊢
      have hbl : w.heap.size + 1 ≤ D.heap.size := hDs
      generalize D.heap.size = bn at hNy hlsy hbl ⊢
      refine wpAnyH_ready (rs := [6]) (by kernel_rfl) (by simp) ?_
      refine AllReadyH.cons rfl (fun K hK => ?_) AllReadyH.nil
      go_simp
      go_wp2_with fail
      have hNx := arr_new W1 (filled 0 0) rfl
      have gNx : Below W1.heap.size W1 (W1.alloc (.cells (pgC (filled 0 0)) 58)) := (Below.refl _ _).alloc (Nat.le_refl _) _
      refine hK.out _ _ (ivKeep hHeld gNx) (fun hHeld => ?_)
      have hHeld : IvS w (W1.alloc (.cells (pgC (filled 0 0)) 58)) := hHeld
      have hNy := hNy.grown gNx
      have hlsx : W1.heap.size < (W1.alloc (.cells (pgC (filled 0 0)) 58)).heap.size := by simp
      clear hK K gNx
      try simp only [Act.put]
      try simp only [List.setIfInBounds_toArray]
      try simp only [List.set]
      change wpAnyH _ _ _ _ _ _ _ _ (W1.alloc (.cells (pgC (filled 0 0)) 58)) at ⊢
      generalize W1.alloc (.cells (pgC (filled 0 0)) 58) = W2 at hHeld hNx hlsx hNy ⊢
      have hneW : bn < W1.heap.size := hlsy
      generalize W1.heap.size = bx at hNx hlsx hneW ⊢
      have hbx : w.heap.size + 1 ≤ bx := by omega
      have hbn : w.heap.size + 1 ≤ bn := by omega
      have hxy : bx ≠ bn := by omega
      clear hneW hbl hDs hlsx hlsy
      refine wpAnyH_ready (rs := [8]) (by kernel_rfl) (by simp) ?_
      refine AllReadyH.cons rfl (fun K hK => ?_) AllReadyH.nil
      rw [if_pos (by kernel_rfl)]
      refine wp_storePg _ _ rfl bx za rfl rfl HLa.out (filled 0 0) hNx ?_
      have hHeld2 := ivTurn hHeld (turned_row (w := W2) (g := bx) (pgC za)) hbx
      have hNy := hNy.row_other (g := bx) (fun e => hxy e.symm) (pgC za)
      have hNx := hNx.put (ys := za) HLa.out
      refine hK.out _ _ hHeld2 (fun hHeld => ?_)
      clear hK K hHeld2
      try simp only [Act.put]
      try simp only [List.setIfInBounds_toArray]
      try simp only [List.set]
      generalize W2.setRow bx (pgC za) = W3 at hHeld hNx hNy ⊢
      refine wpAnyH_ready (rs := [9]) (by kernel_rfl) (by simp) ?_
      refine AllReadyH.cons rfl (fun K hK => ?_) AllReadyH.nil
      rw [if_pos (by kernel_rfl)]
      refine wp_storePg _ _ rfl bn zb rfl rfl HLb.out (filled 0 0) hNy ?_
      have hHeld2 := ivTurn hHeld (turned_row (w := W3) (g := bn) (pgC zb)) hbn
      have hNx := hNx.row_other (g := bn) hxy (pgC zb)
      have hNy := hNy.put (ys := zb) HLb.out
      refine hK.out _ _ hHeld2 (fun hHeld => ?_)
      clear hK K hHeld2
      try simp only [Act.put]
      try simp only [List.setIfInBounds_toArray]
      try simp only [List.set]
      generalize W3.setRow bn (pgC zb) = W4 at hHeld hNx hNy ⊢
      refine wpAnyH_done (by kernel_rfl) ?_ _
      go_upto_region 4 with (fail)
      refine wp_region_held_drew (S := fun V => Arr V bx za ∧ Arr V bn zb ∧ IvS w V) (by kernel_rfl) (dfKeep ⟨hNx, hNy, hHeld⟩ (Below.refl _ _).drew) (fun hHeld => ?_)
      clear hNx hNy
      generalize W4.drew = D2 at hHeld ⊢
      refine wpAnyH_take (i := 0) (v := .agg (pgC zb)) rfl (by kernel_rfl) (by kernel_rfl) (by kernel_rfl) (fun _ _ _ h => h) (yieldsIf_loadPg (by kernel_rfl) _ rfl bn rfl zb (fun W hS => hS.2.1)) hHeld ?_
      try simp only [List.getElem_toArray]
      try simp only [List.getElem_cons_succ]
      try simp only [List.getElem_cons_zero]
      try simp only [Act.put]
      try simp only [List.setIfInBounds_toArray]
      try simp only [List.set]
      refine wpAnyH_take (i := 1) (v := .agg (pgC za)) rfl (by kernel_rfl) (by kernel_rfl) (by kernel_rfl) (fun _ _ _ h => h) (yieldsIf_loadPg (by kernel_rfl) _ rfl bx rfl za (fun W hS => hS.1)) hHeld ?_
      try simp only [List.getElem_toArray]
      try simp only [List.getElem_cons_succ]
      try simp only [List.getElem_cons_zero]
      try simp only [Act.put]
      try simp only [List.setIfInBounds_toArray]
      try simp only [List.set]
      refine wpAnyH_take (i := 2) (v := .agg (pgC zb)) rfl (by kernel_rfl) (by kernel_rfl) (by kernel_rfl) (fun _ _ _ h => h) (yieldsIf_loadPg (by kernel_rfl) _ rfl bn rfl zb (fun W hS => hS.2.1)) hHeld ?_
      try simp only [List.getElem_toArray]
      try simp only [List.getElem_cons_succ]
      try simp only [List.getElem_cons_zero]
      try simp only [Act.put]
      try simp only [List.setIfInBounds_toArray]
      try simp only [List.set]
      refine wpAnyH_ready (rs := [3]) (by kernel_rfl) (by simp) ?_
      refine AllReadyH.cons rfl (fun K hK => ?_) AllReadyH.nil
      go_simp
      go_wp2_with (go_at_call 37; refine (turnedSpans_any za zb _ HLa.out HLb.out).mono ?_; rintro e w2 ⟨rfl, hb, hA2, hB2⟩)
      refine hK.out _ _ (dfKeep hHeld hb) (fun hHeld => ?_)
      clear hK K
      try simp only [Act.put]
      try simp only [List.setIfInBounds_toArray]
      try simp only [List.set]
      have hbD : D2.heap.size < w2.heap.size := hA2.lt
      have hbD2 : D2.heap.size + 1 < w2.heap.size := hB2.lt
      clear hb
      generalize D2.heap.size = qa at hA2 hB2 hbD hbD2 ⊢
      have hw2 := hHeld.2.2.2.2.2.2.size
      have hw2l : w.heap.size < w2.heap.size := World.block_lt_of_cell? w2 _ hHeld.2.2.2.1
      refine wpAnyH_ready (rs := [4]) (by kernel_rfl) (by simp) ?_
      refine AllReadyH.cons rfl (fun K hK => ?_) AllReadyH.nil
      go_simp
      go_wp2_with (go_at_call 36; refine (runsIn_keeps 56 #[.pointer (some ⟨qa, 0, none⟩), .pointer (some ⟨qa + 1, 0, none⟩)] zb (dS za zb 0) _ HLb.out (by have := dS_half za zb 0 (by omega); omega) (enters_of Try.func56 (by kernel_rfl) rfl) (fun W hW => turned_stops qa (qa + 1) w2.heap.size za zb hza hzb W hW.size hbD hbD2 (hA2.below hW hbD) (hB2.below hW hbD2))).mono ?_; rintro e w3 ⟨a3, c3, A3, C3, F3, rfl, hb, ho⟩; rw [HN.out])
      refine hK.out _ _ (dfKeep hHeld hb) (fun hHeld => ?_)
      clear hK K
      try simp only [Act.put]
      try simp only [List.setIfInBounds_toArray]
      try simp only [List.set]
      rw [HN.out] at ho
      clear hb hA2 hB2
      refine wpAnyH_take (i := 5) (v := .agg #[.int .i64 0, .slice a3 n c3]) rfl (by kernel_rfl) (by kernel_rfl) (by kernel_rfl) (fun _ _ _ h => h) (Or.inl ⟨by kernel_rfl, fun u hSw => by (try dsimp only at hSw); go_simp; try with_reducible rfl⟩) hHeld ?_
      try simp only [List.getElem_toArray]
      try simp only [List.getElem_cons_succ]
      try simp only [List.getElem_cons_zero]
      try simp only [Act.put]
      try simp only [List.setIfInBounds_toArray]
      try simp only [List.set]
      refine wpAnyH_ready (rs := [6]) (by kernel_rfl) (by simp) ?_
      refine AllReadyH.cons rfl (fun K hK => ?_) AllReadyH.nil
      obtain ⟨hAx, hAy, ⟨v, e1⟩, e0, f0, f1, g⟩ := id hHeld
      have hgs := g.size
      go_simp
      go_wp2_with fail
      generalize hV : World.setCell (World.setCell _ _ _) _ _ = V
      have c0 : V.cell? ⟨w.heap.size, 0, none⟩ = some (.int .i64 0) := by rw [← hV]; simp [go_sem, e0]
      have c1 : V.cell? ⟨w.heap.size, 1, none⟩ = some (.slice a3 n c3) := by rw [← hV]; simp [go_sem, e1]
      have gV : Below w.heap.size w V := by rw [← hV]; exact (g.setCell (Nat.le_refl _) _).setCell (Nat.le_refl _) _
      have tV : Turned w.heap.size (w.heap.size + 1) w3 V := by rw [← hV]; exact ((Turned.refl _ _ _).setCell (p := ⟨w.heap.size, 0, none⟩) (Nat.le_refl _) (Nat.lt_succ_self _) _).setCell (p := ⟨w.heap.size, 1, none⟩) (Nat.le_refl _) (Nat.lt_succ_self _) _
      have hoV : OwnS w.heap.size V.heap.size V a3 n (spP (dS za zb 0)) A3 C3 (spZ zb (dS za zb 0)) F3 := (ho.turned tV (.inr hw2l)).mono hw2 tV.size
      have hHeld : Arr V bx za ∧ Arr V bn zb ∧ IvS w V := ⟨hAx.turned tV (.inr hbx), hAy.turned tV (.inr hbn), ⟨_, c1⟩, c0, by rw [← hV, World.frozen?_setCell, World.frozen?_setCell]; exact f0, by rw [← hV, World.frozen?_setCell, World.frozen?_setCell]; exact f1, gV⟩
      clear hV e0 e1 f0 f1 g ho tV hAx hAy
      refine hK.out _ _ hHeld (fun hHeld => ?_)
      clear hK K
      refine wpAnyH_done (by kernel_rfl) ?_ _
      go_wp2_with fail
      refine bodyPost_ret (v := .agg #[.int .i64 0, .slice a3 n c3]) (by simp [results, Try.results10, go_sem, c0, c1]) rfl ?_
      exact ⟨a3, c3, A3, C3, F3, by rw [HB.out.1, HB.out.2], gV, by rw [HB.out.2]; exact hoV⟩

  · have HB : Hid (dfQ za zb = 1 ∧ dfN za zb = 0) := by constructor <;> simp only [dfQ, dfN] <;> rw [if_neg hq]
    rw [h1, h2] at hq
    by_cases hn1 : n1 = 64
    · have hn2 : n2 ≠ 64 := fun e => hq ⟨hn1, e⟩
      have d1 : ((n1 : Int) != 64) = false := by simp; omega
      have d2 : ((n2 : Int) != 64) = true := by simp; omega
      clear hq h1 h2 hn1
      go_enter Try.func10, Try.ntmps10
      go_wp2_with fail
      refine bodyPost_ret (v := .agg #[.int .i64 1, .slice none 0 0]) (by simp [results, Try.results10, go_sem]) rfl ?_
      exact ⟨none, 0, fun _ => none, fun _ => 0, fun _ => 0, by rw [HB.out.1, HB.out.2], by go_grown, by rw [HB.out.2]; exact .inl rfl⟩
    · have d1 : ((n1 : Int) != 64) = true := by simp; omega
      clear hq h1 h2 hn1
      go_enter Try.func10, Try.ntmps10
      go_wp2_with fail
      refine bodyPost_ret (v := .agg #[.int .i64 1, .slice none 0 0]) (by simp [results, Try.results10, go_sem]) rfl ?_
      exact ⟨none, 0, fun _ => none, fun _ => 0, fun _ => 0, by rw [HB.out.1, HB.out.2], by go_grown, by rw [HB.out.2]; exact .inl rfl⟩

end Go.Proofs.Ytpoccjlngbdjlaa
