/-
  The law FnRecords answers true at all codes.
-/
import Derived.Test.YtcjkjenebnodbaaDoorSDrr
import Derived.Test.YtcjkjenebnodbaaDoorSSrr
import Derived.Test.YtcjkjenebnodbaaDoorSPkc
import Derived.Test.YtcjkjenebnodbaaDoorSRta
import Derived.Laws.BytesArg

namespace Go.Proofs.YtcjkjenebnodbaaDoor
open Go.RowKit
set_option linter.unusedVariables false

theorem lwBig_small (a : Option Addr) (n c : Nat) (w : World) (h : n ≤ 1048576) : Calls Tryd.prog 5 #[.slice a n c] w fun e w' => e = .returned (.bool false) ∧ w' = w := by
  have d : ¬ ((1048576 : Int) < (n : Int)) := by omega
  have d2 : decide ((1048576 : Int) < (n : Int)) = false := by simpa using d
  go_enter Tryd.func5, Tryd.ntmps5
  go_wp2
  go_ret
  exact ⟨rfl, rfl⟩
theorem lwBig_big (a : Option Addr) (n c : Nat) (w : World) (h : 1048576 < n) : Calls Tryd.prog 5 #[.slice a n c] w fun e w' => e = .returned (.bool true) ∧ w' = w := by
  have d : (1048576 : Int) < (n : Int) := by omega
  have d2 : decide ((1048576 : Int) < (n : Int)) = true := by simpa using d
  go_enter Tryd.func5, Tryd.ntmps5
  go_wp2
  go_ret
  exact ⟨rfl, rfl⟩
theorem lwSame_same (a b : Option Addr) (n c d : Nat) (zs : List Int) (w : World) (hn : zs.length = n) (ha : Reads w a zs) (hb : Reads w b zs) :
    Calls Tryd.prog 9 #[.slice a n c, .slice b n d] w fun e w' => e = .returned (.bool true) ∧ w' = w := by
  have k1 := convert_any w a n c zs hn ha
  have k2 := convert_any w b n d zs hn hb
  generalize strOfNums zs = s at k1 k2
  clear ha hb hn
  go_enter Tryd.func9, Tryd.ntmps9
  go_wp2
  go_ret
  exact ⟨by simp, rfl⟩
theorem recs_one {w : World} {g : Nat} {r : Rc} {d : Ad} (h0 : w.cell? ⟨g, 0, none⟩ = some (.int .i64 r.k)) (h1 : w.cell? ⟨g, 1, none⟩ = some (.int .i64 r.t)) (h2 : w.cell? ⟨g, 2, none⟩ = some (.int .i64 r.g)) (h3 : w.cell? ⟨g, 3, none⟩ = some (.slice d.a r.n d.c)) (hr : RunsRead w d.a r.n r.P d.A d.C r.Z) : RecsRead w (some ⟨g, 0, none⟩) 1 (fun _ => r) (fun _ => d) := by
  refine .inr ⟨g, 0, rfl, fun i hi => ?_⟩
  have hi0 : i = 0 := by omega
  subst hi0
  exact ⟨h0, h1, h2, h3, hr⟩
theorem OwnS.rr {lo hi n : Nat} {w : World} {a : Option Addr} {P : Nat → Int} {A : Nat → Option Addr} {C : Nat → Nat} {Z : Nat → List Int} {F : Nat → Nat} (h : OwnS lo hi w a n P A C Z F) : RunsRead w a n P A C Z := by
  rcases h with h | ⟨bq, e, hq⟩
  · exact .inl h
  · rw [e]; exact hq.reads
theorem nR_small {zs : List Int} (h : zs.length ≤ 1000) : nR zs ≤ 1000 := by
  unfold nR
  split
  · rename_i hk
    have h1 := ok_len hk
    have h2 := pos_took zs (cnt zs) (cnt_fit zs)
    omega
  · omega

set_option maxRecDepth 20000 in
set_option maxHeartbeats 40000000 in
theorem lawRecords_fits (a : Option Addr) (n c : Nat) (zs : List Int) (w : World) (rd : Dr.Reads w a zs) (hn : zs.length = n) (hm : n ≤ 1048576) (hz : ∀ z ∈ zs, 0 ≤ z ∧ z ≤ 255) (hT : Tab w) :
    Calls Tryd.prog 3 #[.slice a n c] w fun e w' => e = .returned (.bool true) ∧ Below w.heap.size w w' := by
  have hf33a : ∀ (q : Int) (p : Option Addr) (n c : Nat) (W : World), (Instr.field 33 (.agg #[.int .i64 q, .slice p n c]) 0).run Tryd.prog W = .ok (.int .i64 q) W := fun _ _ _ _ _ => by kernel_rfl
  have hf33b : ∀ (q : Int) (p : Option Addr) (n c : Nat) (W : World), (Instr.field 33 (.agg #[.int .i64 q, .slice p n c]) 1).run Tryd.prog W = .ok (.slice p n c) W := fun _ _ _ _ _ => by kernel_rfl
  have hf29 : ∀ (q u k t g : Int) (p : Option Addr) (n c : Nat) (W : World), (Instr.field 29 (.agg #[.int .i64 q, .int .i64 u, .int .i64 k, .int .i64 t, .int .i64 g, .slice p n c]) 0).run Tryd.prog W = .ok (.int .i64 q) W := fun _ _ _ _ _ _ _ _ _ => by kernel_rfl
  have hf40a : ∀ (q : Int) (s : ByteArray) (W : World), (Instr.field 40 (.agg #[.int .i64 q, .string s]) 0).run Tryd.prog W = .ok (.int .i64 q) W := fun _ _ _ => by kernel_rfl
  have hf40b : ∀ (q : Int) (s : ByteArray) (W : World), (Instr.field 40 (.agg #[.int .i64 q, .string s]) 1).run Tryd.prog W = .ok (.string s) W := fun _ _ _ => by kernel_rfl
  have HDp : Hid (∀ X, Below w.heap.size w X → Calls Tryd.prog 11 #[.slice a n c] X fun e w' => DpcPost X e w') := fun X g => drawPackRecord_any a n c zs X (rd.below g (Nat.le_refl _)) hn hm hz
  have HTab : Hid (∀ X, Below w.heap.size w X → Tab X) := fun X g => hT.below g
  go_enter Tryd.func3, Tryd.ntmps3
  go_wp2_with fail
  refine (lwBig_small a n c _ hm).mono ?_
  rintro e w0 ⟨rfl, h0⟩
  rw [h0]
  clear h0 w0
  go_wp2_with fail
  refine (drawReadRecord_any a n c zs _ rd hn hm hz).mono ?_
  rintro e w1 ⟨da, ds, dc, rfl, hd1, hd2, hdr, hdb, hdl, g1⟩
  clear rd hn hm hz hT
  have HRI : Hid (∀ X, Reads X da ds → Calls Tryd.prog 7 #[.slice da ds.length dc] X fun e w' => RRPost X ds e w') := fun X h => implReadRecord_any ds da dc X (by omega) hd1 hd2 h hdb
  have HRS : Hid (∀ X, Reads X da ds → Calls Tryd.prog 8 #[.slice da ds.length dc] X fun e w' => RRPost X ds e w') := fun X h => specReadRecord_any ds da dc X (by omega) hd1 hd2 h hdb
  go_wp2_with fail
  refine (HRI.out _ hdr).mono ?_
  rintro e w2 ⟨ua, uc, UA, UC, UF, rfl, g2, hO2⟩
  have hUn := hO2.rr
  have hdr := hdr.below g2 (Nat.le_refl _)
  have g1 := g1.trans (g2.mono g1.size)
  clear hO2 g2 HRI
  have HUb : Hid (nR ds ≤ 1000 ∧ (∀ i, i < nR ds → (rZ ds i).length ≤ 1048576) ∧ ∀ i, i < nR ds → ∀ z ∈ rZ ds i, 0 ≤ z ∧ z ≤ 255) := ⟨nR_small (by omega), fun i _ => rZ_small (by omega) i, fun i _ => rZ_bd hdb i⟩
  go_upto_region 5 with (fail)
  generalize hY : World.alloc w2 _ = Y
  have gY : Below w2.heap.size w2 Y := by rw [← hY]; go_grown
  have U0 : Y.cell? ⟨w2.heap.size, 0, none⟩ = some (.int .i64 (qR ds)) := by rw [← hY]; simp [go_sem]
  have U1 : Y.cell? ⟨w2.heap.size, 1, none⟩ = some (.int .i64 (uR ds)) := by rw [← hY]; simp [go_sem]
  have U2 : Y.cell? ⟨w2.heap.size, 2, none⟩ = some (.int .i64 (kR ds 1)) := by rw [← hY]; simp [go_sem]
  have U3 : Y.cell? ⟨w2.heap.size, 3, none⟩ = some (.int .i64 (kR ds 2)) := by rw [← hY]; simp [go_sem]
  have U4 : Y.cell? ⟨w2.heap.size, 4, none⟩ = some (.int .i64 (kR ds 3)) := by rw [← hY]; simp [go_sem]
  have U5 : Y.cell? ⟨w2.heap.size, 5, none⟩ = some (.slice ua (nR ds) uc) := by rw [← hY]; simp [go_sem]
  have hUn := hUn.below gY (Nat.le_refl _)
  have hdr := hdr.below gY (Nat.le_refl _)
  have g1 := g1.trans (gY.mono g1.size)
  generalize w2.heap.size = bu at U0 U1 U2 U3 U4 U5 ⊢
  clear hY gY
  obtain ⟨F, hFd⟩ : ∃ F : World → Prop, F = fun V => (Reads V da ds) ∧ (V.cell? ⟨bu, 0, none⟩ = some (.int .i64 (qR ds))) ∧ (V.cell? ⟨bu, 1, none⟩ = some (.int .i64 (uR ds))) ∧ (V.cell? ⟨bu, 2, none⟩ = some (.int .i64 (kR ds 1))) ∧ (V.cell? ⟨bu, 3, none⟩ = some (.int .i64 (kR ds 2))) ∧ (V.cell? ⟨bu, 4, none⟩ = some (.int .i64 (kR ds 3))) ∧ (V.cell? ⟨bu, 5, none⟩ = some (.slice ua (nR ds) uc)) ∧ (RunsRead V ua (nR ds) (rP ds) UA UC (rZ ds)) ∧ (Below w.heap.size w V) := ⟨_, rfl⟩
  have hF : F Y := by rw [hFd]; exact ⟨hdr, U0, U1, U2, U3, U4, U5, hUn, g1⟩
  have HFU : Hid (∀ V W, Below V.heap.size V W → F V → F W) := fun V W hb h => by
    rw [hFd] at h ⊢
    exact ⟨h.1.below hb (Nat.le_refl _), cellUp hb h.2.1, cellUp hb h.2.2.1, cellUp hb h.2.2.2.1, cellUp hb h.2.2.2.2.1, cellUp hb h.2.2.2.2.2.1, cellUp hb h.2.2.2.2.2.2.1, h.2.2.2.2.2.2.2.1.below hb (Nat.le_refl _), h.2.2.2.2.2.2.2.2.trans (hb.mono h.2.2.2.2.2.2.2.2.size)⟩
  have FD : Hid (∀ V, F V → Reads V da ds) := fun V h => by rw [hFd] at h; exact h.1
  have FU0 : Hid (∀ V, F V → V.cell? ⟨bu, 0, none⟩ = some (.int .i64 (qR ds))) := fun V h => by rw [hFd] at h; exact h.2.1
  have FU1 : Hid (∀ V, F V → V.cell? ⟨bu, 1, none⟩ = some (.int .i64 (uR ds))) := fun V h => by rw [hFd] at h; exact h.2.2.1
  have FU2 : Hid (∀ V, F V → V.cell? ⟨bu, 2, none⟩ = some (.int .i64 (kR ds 1))) := fun V h => by rw [hFd] at h; exact h.2.2.2.1
  have FU3 : Hid (∀ V, F V → V.cell? ⟨bu, 3, none⟩ = some (.int .i64 (kR ds 2))) := fun V h => by rw [hFd] at h; exact h.2.2.2.2.1
  have FU4 : Hid (∀ V, F V → V.cell? ⟨bu, 4, none⟩ = some (.int .i64 (kR ds 3))) := fun V h => by rw [hFd] at h; exact h.2.2.2.2.2.1
  have FU5 : Hid (∀ V, F V → V.cell? ⟨bu, 5, none⟩ = some (.slice ua (nR ds) uc)) := fun V h => by rw [hFd] at h; exact h.2.2.2.2.2.2.1
  have FUn : Hid (∀ V, F V → RunsRead V ua (nR ds) (rP ds) UA UC (rZ ds)) := fun V h => by rw [hFd] at h; exact h.2.2.2.2.2.2.2.1
  have FG : Hid (∀ V, F V → Below w.heap.size w V) := fun V h => by rw [hFd] at h; exact h.2.2.2.2.2.2.2.2
  clear hFd
  clear hdr U0 U1 U2 U3 U4 U5 hUn g1
  have HNext : Hid (∀ W, F W → True) := fun _ _ => trivial
  go_cut [49] from 9 (fun s wc => s = .bool false ∧ F wc)
  case first =>
    clear HDp HTab hf40a hf40b FG
    by_cases hk : OkI ds
    · obtain ⟨r1, r2, -, -, -, -⟩ := rr_yes hk
      obtain ⟨-, k2, k3, -, -⟩ := ok_len hk
      obtain ⟨p1, p2⟩ := read_pack hk
      rw [r1] at FU0
      rw [r2] at FU1
      have HPk : Hid (∀ X, RunsRead X ua (nR ds) (rP ds) UA UC (rZ ds) → Calls Tryd.prog 10 #[.agg #[.int .i64 (kR ds 1), .int .i64 (kR ds 2), .int .i64 (kR ds 3), .slice ua (nR ds) uc]] X fun e w' => ∃ a' d', e = .returned (.agg #[.int .i64 0, .slice a' (len0 ds) d']) ∧ Below X.heap.size X w' ∧ Reads w' a' (ds.take (len0 ds))) := fun X h => by
        have h1 := implPackRecord_any (kR ds 1) (kR ds 2) (kR ds 3) ua (nR ds) uc (rP ds) UA UC (rZ ds) X (by have := HUb.out.1; omega) HUb.out.2.1 HUb.out.2.2 h
        rw [p1, p2] at h1
        refine h1.mono ?_
        rintro e w' ⟨a', d', he, _, hb, hB⟩
        rw [List.length_take, Nat.min_eq_left k3] at he
        exact ⟨a', d', he, hb, hB.reads⟩
      have HSm : Hid (∀ X a' d', Reads X a' (ds.take (len0 ds)) → Reads X da ds → Calls Tryd.prog 9 #[.slice a' (len0 ds) d', .slice da (len0 ds) dc] X fun e w' => e = .returned (.bool true) ∧ w' = X) := fun X a' d' h1 h2 => lwSame_same a' da (len0 ds) d' dc (ds.take (len0 ds)) X (by rw [List.length_take, Nat.min_eq_left k3]) h1 (h2.take _)
      have HQ : Hid (qR ds = 0) := r1
      generalize len0 ds = L at FU1 HPk HSm k2 k3
      generalize kR ds 1 = u1 at FU2 HPk
      generalize kR ds 2 = u2 at FU3 HPk
      generalize kR ds 3 = u3 at FU4 HPk
      have e1 : ¬ ((L : Int) < 1) := by omega
      have e2 : ¬ ((ds.length : Int) < (L : Int)) := by omega
      have e3 : (L : Int) ≤ (dc : Int) := by omega
      have e4 : L ≤ dc := by omega
      have e5 : decide ((L : Int) < 1) = false := by simpa using e1
      have e6 : decide ((ds.length : Int) < (L : Int)) = false := by simpa using e2
      have e7 : decide (ds.length < L) = false := by simpa using k3
      have e8 : ¬ (ds.length < L) := by omega
      clear r1 r2 p1 p2 hk
      refine wp_region_held_drew (S := F) (by kernel_rfl) (HFU.out _ _ (Below.refl _ Y).drew hF) (fun hHeld => ?_)
      generalize Y.drew = V at hHeld ⊢
      clear hF
      refine wpAnyH_take (i := 0) (v := ?v1) rfl (by kernel_rfl) (by kernel_rfl) (by kernel_rfl) (fun _ _ _ h => h) (Or.inl ⟨by kernel_rfl, ?h1⟩) hHeld ?_
      case h1 => intro u hSw; (try dsimp only at hSw); go_simp; try with_reducible rfl
      try simp only [List.getElem_toArray]
      try simp only [List.getElem_cons_succ]
      try simp only [List.getElem_cons_zero]
      try simp only [Act.put]
      try simp only [List.setIfInBounds_toArray]
      try simp only [List.set]
      refine wpAnyH_take (i := 1) (v := ?v2) rfl (by kernel_rfl) (by kernel_rfl) (by kernel_rfl) (fun _ _ _ h => h) (Or.inl ⟨by kernel_rfl, ?h2⟩) hHeld ?_
      case h2 => intro u hSw; have q0 := FU0.out _ hSw; clear hSw; go_simp; try with_reducible rfl
      try simp only [List.getElem_toArray]
      try simp only [List.getElem_cons_succ]
      try simp only [List.getElem_cons_zero]
      try simp only [Act.put]
      try simp only [List.setIfInBounds_toArray]
      try simp only [List.set]
      refine wpAnyH_take (i := 2) (v := ?v3) rfl (by kernel_rfl) (by kernel_rfl) (by kernel_rfl) (fun _ _ _ h => h) (Or.inl ⟨by kernel_rfl, ?h3⟩) hHeld ?_
      case h3 => intro u hSw; (try dsimp only at hSw); go_simp; try with_reducible rfl
      try simp only [List.getElem_toArray]
      try simp only [List.getElem_cons_succ]
      try simp only [List.getElem_cons_zero]
      try simp only [Act.put]
      try simp only [List.setIfInBounds_toArray]
      try simp only [List.set]
      refine wpAnyH_ready (rs := [3]) (by kernel_rfl) (by simp) ?_
      refine AllReadyH.cons rfl (fun K hK => ?_) AllReadyH.nil
      go_simp
      go_wp2_with (go_at_call 8; refine (HRS.out _ (FD.out _ hHeld)).mono ?_; intro e w3 hp; obtain ⟨x3, c3, A3, C3, F3, he, hb, -⟩ := hp; rw [HQ.out] at he; subst he)
      refine hK.out _ _ (HFU.out _ _ hb hHeld) (fun hHeld => ?_)
      clear hK K
      clear hb
      try simp only [Act.put]
      try simp only [List.setIfInBounds_toArray]
      try simp only [List.set]
      refine wpAnyH_take (i := 4) (v := ?v4) rfl (by kernel_rfl) (by kernel_rfl) (by kernel_rfl) (fun _ _ _ h => h) (Or.inl ⟨by kernel_rfl, ?h4⟩) hHeld ?_
      case h4 => intro u hSw; (try dsimp only at hSw); go_simp; try with_reducible rfl
      try simp only [List.getElem_toArray]
      try simp only [List.getElem_cons_succ]
      try simp only [List.getElem_cons_zero]
      try simp only [Act.put]
      try simp only [List.setIfInBounds_toArray]
      try simp only [List.set]
      refine wpAnyH_take (i := 5) (v := ?v5) rfl (by kernel_rfl) (by kernel_rfl) (by kernel_rfl) (fun _ _ _ h => h) (Or.inl ⟨by kernel_rfl, ?h5⟩) hHeld ?_
      case h5 => intro u hSw; (try dsimp only at hSw); go_simp; try with_reducible rfl
      try simp only [List.getElem_toArray]
      try simp only [List.getElem_cons_succ]
      try simp only [List.getElem_cons_zero]
      try simp only [Act.put]
      try simp only [List.setIfInBounds_toArray]
      try simp only [List.set]
      refine wpAnyH_take (i := 6) (v := ?v6) rfl (by kernel_rfl) (by kernel_rfl) (by kernel_rfl) (fun _ _ _ h => h) (Or.inl ⟨by kernel_rfl, ?h6⟩) hHeld ?_
      case h6 => intro u hSw; (try dsimp only at hSw); go_simp; try with_reducible rfl
      try simp only [List.getElem_toArray]
      try simp only [List.getElem_cons_succ]
      try simp only [List.getElem_cons_zero]
      try simp only [Act.put]
      try simp only [List.setIfInBounds_toArray]
      try simp only [List.set]
      refine wpAnyH_take (i := 7) (v := ?v7) rfl (by kernel_rfl) (by kernel_rfl) (by kernel_rfl) (fun _ _ _ h => h) (Or.inl ⟨by kernel_rfl, ?h7⟩) hHeld ?_
      case h7 => intro u hSw; (try dsimp only at hSw); go_simp; try with_reducible rfl
      try simp only [List.getElem_toArray]
      try simp only [List.getElem_cons_succ]
      try simp only [List.getElem_cons_zero]
      try simp only [Act.put]
      try simp only [List.setIfInBounds_toArray]
      try simp only [List.set]
      refine wpAnyH_take (i := 8) (v := ?v8) rfl (by kernel_rfl) (by kernel_rfl) (by kernel_rfl) (fun _ _ _ h => h) (Or.inl ⟨by kernel_rfl, ?h8⟩) hHeld ?_
      case h8 => intro u hSw; have q0 := FU0.out _ hSw; clear hSw; go_simp; try with_reducible rfl
      try simp only [List.getElem_toArray]
      try simp only [List.getElem_cons_succ]
      try simp only [List.getElem_cons_zero]
      try simp only [Act.put]
      try simp only [List.setIfInBounds_toArray]
      try simp only [List.set]
      refine wpAnyH_take (i := 9) (v := ?v9) rfl (by kernel_rfl) (by kernel_rfl) (by kernel_rfl) (fun _ _ _ h => h) (Or.inl ⟨by kernel_rfl, ?h9⟩) hHeld ?_
      case h9 => intro u hSw; (try dsimp only at hSw); go_simp; try with_reducible rfl
      try simp only [List.getElem_toArray]
      try simp only [List.getElem_cons_succ]
      try simp only [List.getElem_cons_zero]
      try simp only [Act.put]
      try simp only [List.setIfInBounds_toArray]
      try simp only [List.set]
      refine wpAnyH_take (i := 10) (v := ?v10) rfl (by kernel_rfl) (by kernel_rfl) (by kernel_rfl) (fun _ _ _ h => h) (Or.inl ⟨by kernel_rfl, ?h10⟩) hHeld ?_
      case h10 => intro u hSw; (try dsimp only at hSw); go_simp; try with_reducible rfl
      try simp only [List.getElem_toArray]
      try simp only [List.getElem_cons_succ]
      try simp only [List.getElem_cons_zero]
      try simp only [Act.put]
      try simp only [List.setIfInBounds_toArray]
      try simp only [List.set]
      refine wpAnyH_take (i := 11) (v := ?v11) rfl (by kernel_rfl) (by kernel_rfl) (by kernel_rfl) (fun _ _ _ h => h) (Or.inl ⟨by kernel_rfl, ?h11⟩) hHeld ?_
      case h11 => intro u hSw; (try dsimp only at hSw); go_simp; try with_reducible rfl
      try simp only [List.getElem_toArray]
      try simp only [List.getElem_cons_succ]
      try simp only [List.getElem_cons_zero]
      try simp only [Act.put]
      try simp only [List.setIfInBounds_toArray]
      try simp only [List.set]
      refine wpAnyH_take (i := 12) (v := ?v12) rfl (by kernel_rfl) (by kernel_rfl) (by kernel_rfl) (fun _ _ _ h => h) (Or.inl ⟨by kernel_rfl, ?h12⟩) hHeld ?_
      case h12 => intro u hSw; have q0 := FU1.out _ hSw; clear hSw; go_simp; try with_reducible rfl
      try simp only [List.getElem_toArray]
      try simp only [List.getElem_cons_succ]
      try simp only [List.getElem_cons_zero]
      try simp only [Act.put]
      try simp only [List.setIfInBounds_toArray]
      try simp only [List.set]
      refine wpAnyH_take (i := 13) (v := ?v13) rfl (by kernel_rfl) (by kernel_rfl) (by kernel_rfl) (fun _ _ _ h => h) (Or.inl ⟨by kernel_rfl, ?h13⟩) hHeld ?_
      case h13 => intro u hSw; (try dsimp only at hSw); go_simp; try with_reducible rfl
      try simp only [List.getElem_toArray]
      try simp only [List.getElem_cons_succ]
      try simp only [List.getElem_cons_zero]
      try simp only [Act.put]
      try simp only [List.setIfInBounds_toArray]
      try simp only [List.set]
      refine wpAnyH_take (i := 14) (v := ?v14) rfl (by kernel_rfl) (by kernel_rfl) (by kernel_rfl) (fun _ _ _ h => h) (Or.inl ⟨by kernel_rfl, ?h14⟩) hHeld ?_
      case h14 => intro u hSw; (try dsimp only at hSw); go_simp; try with_reducible rfl
      try simp only [List.getElem_toArray]
      try simp only [List.getElem_cons_succ]
      try simp only [List.getElem_cons_zero]
      try simp only [Act.put]
      try simp only [List.setIfInBounds_toArray]
      try simp only [List.set]
      refine wpAnyH_take (i := 15) (v := ?v15) rfl (by kernel_rfl) (by kernel_rfl) (by kernel_rfl) (fun _ _ _ h => h) (Or.inl ⟨by kernel_rfl, ?h15⟩) hHeld ?_
      case h15 => intro u hSw; (try dsimp only at hSw); go_simp; try with_reducible rfl
      try simp only [List.getElem_toArray]
      try simp only [List.getElem_cons_succ]
      try simp only [List.getElem_cons_zero]
      try simp only [Act.put]
      try simp only [List.setIfInBounds_toArray]
      try simp only [List.set]
      refine wpAnyH_take (i := 16) (v := ?v16) rfl (by kernel_rfl) (by kernel_rfl) (by kernel_rfl) (fun _ _ _ h => h) (Or.inl ⟨by kernel_rfl, ?h16⟩) hHeld ?_
      case h16 => intro u hSw; have q0 := FU1.out _ hSw; clear hSw; go_simp; try with_reducible rfl
      try simp only [List.getElem_toArray]
      try simp only [List.getElem_cons_succ]
      try simp only [List.getElem_cons_zero]
      try simp only [Act.put]
      try simp only [List.setIfInBounds_toArray]
      try simp only [List.set]
      refine wpAnyH_take (i := 17) (v := ?v17) rfl (by kernel_rfl) (by kernel_rfl) (by kernel_rfl) (fun _ _ _ h => h) (Or.inl ⟨by kernel_rfl, ?h17⟩) hHeld ?_
      case h17 => intro u hSw; (try dsimp only at hSw); go_simp; try with_reducible rfl
      try simp only [List.getElem_toArray]
      try simp only [List.getElem_cons_succ]
      try simp only [List.getElem_cons_zero]
      try simp only [Act.put]
      try simp only [List.setIfInBounds_toArray]
      try simp only [List.set]
      refine wpAnyH_take (i := 18) (v := ?v18) rfl (by kernel_rfl) (by kernel_rfl) (by kernel_rfl) (fun _ _ _ h => h) (Or.inl ⟨by kernel_rfl, ?h18⟩) hHeld ?_
      case h18 => intro u hSw; (try dsimp only at hSw); go_simp; try with_reducible rfl
      try simp only [List.getElem_toArray]
      try simp only [List.getElem_cons_succ]
      try simp only [List.getElem_cons_zero]
      try simp only [Act.put]
      try simp only [List.setIfInBounds_toArray]
      try simp only [List.set]
      refine wpAnyH_take (i := 19) (v := ?v19) rfl (by kernel_rfl) (by kernel_rfl) (by kernel_rfl) (fun _ _ _ h => h) (Or.inl ⟨by kernel_rfl, ?h19⟩) hHeld ?_
      case h19 => intro u hSw; (try dsimp only at hSw); go_simp; try with_reducible rfl
      try simp only [List.getElem_toArray]
      try simp only [List.getElem_cons_succ]
      try simp only [List.getElem_cons_zero]
      try simp only [Act.put]
      try simp only [List.setIfInBounds_toArray]
      try simp only [List.set]
      refine wpAnyH_take (i := 20) (v := ?v20) rfl (by kernel_rfl) (by kernel_rfl) (by kernel_rfl) (fun _ _ _ h => h) (Or.inl ⟨by kernel_rfl, ?h20⟩) hHeld ?_
      case h20 => intro u hSw; (try dsimp only at hSw); go_simp; try with_reducible rfl
      try simp only [List.getElem_toArray]
      try simp only [List.getElem_cons_succ]
      try simp only [List.getElem_cons_zero]
      try simp only [Act.put]
      try simp only [List.setIfInBounds_toArray]
      try simp only [List.set]
      refine wpAnyH_take (i := 21) (v := ?v21) rfl (by kernel_rfl) (by kernel_rfl) (by kernel_rfl) (fun _ _ _ h => h) (Or.inl ⟨by kernel_rfl, ?h21⟩) hHeld ?_
      case h21 => intro u hSw; (try dsimp only at hSw); go_simp; try with_reducible rfl
      try simp only [List.getElem_toArray]
      try simp only [List.getElem_cons_succ]
      try simp only [List.getElem_cons_zero]
      try simp only [Act.put]
      try simp only [List.setIfInBounds_toArray]
      try simp only [List.set]
      refine wpAnyH_take (i := 22) (v := ?v22) rfl (by kernel_rfl) (by kernel_rfl) (by kernel_rfl) (fun _ _ _ h => h) (Or.inl ⟨by kernel_rfl, ?h22⟩) hHeld ?_
      case h22 => intro u hSw; (try dsimp only at hSw); go_simp; try with_reducible rfl
      try simp only [List.getElem_toArray]
      try simp only [List.getElem_cons_succ]
      try simp only [List.getElem_cons_zero]
      try simp only [Act.put]
      try simp only [List.setIfInBounds_toArray]
      try simp only [List.set]
      refine wpAnyH_take (i := 23) (v := ?v23) rfl (by kernel_rfl) (by kernel_rfl) (by kernel_rfl) (fun _ _ _ h => h) (Or.inl ⟨by kernel_rfl, ?h23⟩) hHeld ?_
      case h23 => intro u hSw; have q0 := FU2.out _ hSw; have q1 := FU3.out _ hSw; have q3 := FU4.out _ hSw; have q4 := FU5.out _ hSw; clear hSw; go_simp; try with_reducible rfl
      try simp only [List.getElem_toArray]
      try simp only [List.getElem_cons_succ]
      try simp only [List.getElem_cons_zero]
      try simp only [Act.put]
      try simp only [List.setIfInBounds_toArray]
      try simp only [List.set]
      refine wpAnyH_take (i := 26) (v := ?v24) rfl (by kernel_rfl) (by kernel_rfl) (by kernel_rfl) (fun _ _ _ h => h) (Or.inl ⟨by kernel_rfl, ?h24⟩) hHeld ?_
      case h24 => intro u hSw; (try dsimp only at hSw); go_simp; try with_reducible rfl
      try simp only [List.getElem_toArray]
      try simp only [List.getElem_cons_succ]
      try simp only [List.getElem_cons_zero]
      try simp only [Act.put]
      try simp only [List.setIfInBounds_toArray]
      try simp only [List.set]
      refine wpAnyH_take (i := 27) (v := ?v25) rfl (by kernel_rfl) (by kernel_rfl) (by kernel_rfl) (fun _ _ _ h => h) (Or.inl ⟨by kernel_rfl, ?h25⟩) hHeld ?_
      case h25 => intro u hSw; (try dsimp only at hSw); go_simp; try with_reducible rfl
      try simp only [List.getElem_toArray]
      try simp only [List.getElem_cons_succ]
      try simp only [List.getElem_cons_zero]
      try simp only [Act.put]
      try simp only [List.setIfInBounds_toArray]
      try simp only [List.set]
      refine wpAnyH_take (i := 28) (v := ?v26) rfl (by kernel_rfl) (by kernel_rfl) (by kernel_rfl) (fun _ _ _ h => h) (Or.inl ⟨by kernel_rfl, ?h26⟩) hHeld ?_
      case h26 => intro u hSw; have q0 := FU1.out _ hSw; clear hSw; go_simp; try with_reducible rfl
      try simp only [List.getElem_toArray]
      try simp only [List.getElem_cons_succ]
      try simp only [List.getElem_cons_zero]
      try simp only [Act.put]
      try simp only [List.setIfInBounds_toArray]
      try simp only [List.set]
      refine wpAnyH_take (i := 29) (v := ?v27) rfl (by kernel_rfl) (by kernel_rfl) (by kernel_rfl) (fun _ _ _ h => h) (Or.inl ⟨by kernel_rfl, ?h27⟩) hHeld ?_
      case h27 => intro u hSw; (try dsimp only at hSw); go_simp; try with_reducible rfl
      try simp only [List.getElem_toArray]
      try simp only [List.getElem_cons_succ]
      try simp only [List.getElem_cons_zero]
      try simp only [Act.put]
      try simp only [List.setIfInBounds_toArray]
      try simp only [List.set]
      refine wpAnyH_ready (rs := [24]) (by kernel_rfl) (by simp) ?_
      refine AllReadyH.cons rfl (fun K hK => ?_) AllReadyH.nil
      go_simp
      go_wp2_with (go_at_call 10; refine (HPk.out _ (FUn.out _ hHeld)).mono ?_; rintro e w4 ⟨x4, c4, rfl, hb, hrd4⟩)
      refine hK.out _ _ (HFU.out _ _ hb hHeld) (fun hHeld => ?_)
      clear hK K
      clear hb
      try simp only [Act.put]
      try simp only [List.setIfInBounds_toArray]
      try simp only [List.set]
      refine wpAnyH_take (i := 25) (v := ?v28) rfl (by kernel_rfl) (by kernel_rfl) (by kernel_rfl) (fun _ _ _ h => h) (Or.inl ⟨by kernel_rfl, ?h28⟩) hHeld ?_
      case h28 => intro u hSw; (try dsimp only at hSw); go_simp; try with_reducible rfl
      try simp only [List.getElem_toArray]
      try simp only [List.getElem_cons_succ]
      try simp only [List.getElem_cons_zero]
      try simp only [Act.put]
      try simp only [List.setIfInBounds_toArray]
      try simp only [List.set]
      refine wpAnyH_ready (rs := [30]) (by kernel_rfl) (by simp) ?_
      refine AllReadyH.cons rfl (fun K hK => ?_) AllReadyH.nil
      go_simp
      go_wp2_with (go_at_call 9; refine (HSm.out _ _ _ hrd4 (FD.out _ hHeld)).mono ?_; rintro e w5 ⟨rfl, hw5⟩; subst w5)
      refine hK.out _ _ (hHeld) (fun hHeld => ?_)
      clear hK K
      try simp only [Act.put]
      try simp only [List.setIfInBounds_toArray]
      try simp only [List.set]
      refine wpAnyH_take (i := 31) (v := ?v29) rfl (by kernel_rfl) (by kernel_rfl) (by kernel_rfl) (fun _ _ _ h => h) (Or.inl ⟨by kernel_rfl, ?h29⟩) hHeld ?_
      case h29 => intro u hSw; (try dsimp only at hSw); go_simp; try with_reducible rfl
      try simp only [List.getElem_toArray]
      try simp only [List.getElem_cons_succ]
      try simp only [List.getElem_cons_zero]
      try simp only [Act.put]
      try simp only [List.setIfInBounds_toArray]
      try simp only [List.set]
      refine wpAnyH_take (i := 32) (v := ?v30) rfl (by kernel_rfl) (by kernel_rfl) (by kernel_rfl) (fun _ _ _ h => h) (Or.inl ⟨by kernel_rfl, ?h30⟩) hHeld ?_
      case h30 => intro u hSw; (try dsimp only at hSw); go_simp; try with_reducible rfl
      try simp only [List.getElem_toArray]
      try simp only [List.getElem_cons_succ]
      try simp only [List.getElem_cons_zero]
      try simp only [Act.put]
      try simp only [List.setIfInBounds_toArray]
      try simp only [List.set]
      refine wpAnyH_take (i := 33) (v := ?v31) rfl (by kernel_rfl) (by kernel_rfl) (by kernel_rfl) (fun _ _ _ h => h) (Or.inl ⟨by kernel_rfl, ?h31⟩) hHeld ?_
      case h31 => intro u hSw; (try dsimp only at hSw); go_simp; try with_reducible rfl
      try simp only [List.getElem_toArray]
      try simp only [List.getElem_cons_succ]
      try simp only [List.getElem_cons_zero]
      try simp only [Act.put]
      try simp only [List.setIfInBounds_toArray]
      try simp only [List.set]
      refine wpAnyH_take (i := 34) (v := ?v32) rfl (by kernel_rfl) (by kernel_rfl) (by kernel_rfl) (fun _ _ _ h => h) (Or.inl ⟨by kernel_rfl, ?h32⟩) hHeld ?_
      case h32 => intro u hSw; (try dsimp only at hSw); go_simp; try with_reducible rfl
      try simp only [List.getElem_toArray]
      try simp only [List.getElem_cons_succ]
      try simp only [List.getElem_cons_zero]
      try simp only [Act.put]
      try simp only [List.setIfInBounds_toArray]
      try simp only [List.set]
      refine wpAnyH_done (by kernel_rfl) ?_ _
      go_wp2_with fail
      go_meet
      case rel => exact ⟨rfl, hHeld⟩
    · obtain ⟨r1, r2, -, -, -, -⟩ := rr_no hk
      rw [r1] at FU0
      have HQ : Hid (qR ds = 5) := r1
      clear r1 r2 hk
      refine wp_region_held_drew (S := F) (by kernel_rfl) (HFU.out _ _ (Below.refl _ Y).drew hF) (fun hHeld => ?_)
      generalize Y.drew = V at hHeld ⊢
      clear hF
      refine wpAnyH_take (i := 0) (v := ?v33) rfl (by kernel_rfl) (by kernel_rfl) (by kernel_rfl) (fun _ _ _ h => h) (Or.inl ⟨by kernel_rfl, ?h33⟩) hHeld ?_
      case h33 => intro u hSw; (try dsimp only at hSw); go_simp; try with_reducible rfl
      try simp only [List.getElem_toArray]
      try simp only [List.getElem_cons_succ]
      try simp only [List.getElem_cons_zero]
      try simp only [Act.put]
      try simp only [List.setIfInBounds_toArray]
      try simp only [List.set]
      refine wpAnyH_take (i := 1) (v := ?v34) rfl (by kernel_rfl) (by kernel_rfl) (by kernel_rfl) (fun _ _ _ h => h) (Or.inl ⟨by kernel_rfl, ?h34⟩) hHeld ?_
      case h34 => intro u hSw; have q0 := FU0.out _ hSw; clear hSw; go_simp; try with_reducible rfl
      try simp only [List.getElem_toArray]
      try simp only [List.getElem_cons_succ]
      try simp only [List.getElem_cons_zero]
      try simp only [Act.put]
      try simp only [List.setIfInBounds_toArray]
      try simp only [List.set]
      refine wpAnyH_take (i := 2) (v := ?v35) rfl (by kernel_rfl) (by kernel_rfl) (by kernel_rfl) (fun _ _ _ h => h) (Or.inl ⟨by kernel_rfl, ?h35⟩) hHeld ?_
      case h35 => intro u hSw; (try dsimp only at hSw); go_simp; try with_reducible rfl
      try simp only [List.getElem_toArray]
      try simp only [List.getElem_cons_succ]
      try simp only [List.getElem_cons_zero]
      try simp only [Act.put]
      try simp only [List.setIfInBounds_toArray]
      try simp only [List.set]
      refine wpAnyH_ready (rs := [3]) (by kernel_rfl) (by simp) ?_
      refine AllReadyH.cons rfl (fun K hK => ?_) AllReadyH.nil
      go_simp
      go_wp2_with (go_at_call 8; refine (HRS.out _ (FD.out _ hHeld)).mono ?_; intro e w3 hp; obtain ⟨x3, c3, A3, C3, F3, he, hb, -⟩ := hp; rw [HQ.out] at he; subst he)
      refine hK.out _ _ (HFU.out _ _ hb hHeld) (fun hHeld => ?_)
      clear hK K
      clear hb
      try simp only [Act.put]
      try simp only [List.setIfInBounds_toArray]
      try simp only [List.set]
      refine wpAnyH_take (i := 4) (v := ?v36) rfl (by kernel_rfl) (by kernel_rfl) (by kernel_rfl) (fun _ _ _ h => h) (Or.inl ⟨by kernel_rfl, ?h36⟩) hHeld ?_
      case h36 => intro u hSw; (try dsimp only at hSw); go_simp; try with_reducible rfl
      try simp only [List.getElem_toArray]
      try simp only [List.getElem_cons_succ]
      try simp only [List.getElem_cons_zero]
      try simp only [Act.put]
      try simp only [List.setIfInBounds_toArray]
      try simp only [List.set]
      refine wpAnyH_take (i := 5) (v := ?v37) rfl (by kernel_rfl) (by kernel_rfl) (by kernel_rfl) (fun _ _ _ h => h) (Or.inl ⟨by kernel_rfl, ?h37⟩) hHeld ?_
      case h37 => intro u hSw; (try dsimp only at hSw); go_simp; try with_reducible rfl
      try simp only [List.getElem_toArray]
      try simp only [List.getElem_cons_succ]
      try simp only [List.getElem_cons_zero]
      try simp only [Act.put]
      try simp only [List.setIfInBounds_toArray]
      try simp only [List.set]
      refine wpAnyH_take (i := 6) (v := ?v38) rfl (by kernel_rfl) (by kernel_rfl) (by kernel_rfl) (fun _ _ _ h => h) (Or.inl ⟨by kernel_rfl, ?h38⟩) hHeld ?_
      case h38 => intro u hSw; (try dsimp only at hSw); go_simp; try with_reducible rfl
      try simp only [List.getElem_toArray]
      try simp only [List.getElem_cons_succ]
      try simp only [List.getElem_cons_zero]
      try simp only [Act.put]
      try simp only [List.setIfInBounds_toArray]
      try simp only [List.set]
      refine wpAnyH_take (i := 7) (v := ?v39) rfl (by kernel_rfl) (by kernel_rfl) (by kernel_rfl) (fun _ _ _ h => h) (Or.inl ⟨by kernel_rfl, ?h39⟩) hHeld ?_
      case h39 => intro u hSw; (try dsimp only at hSw); go_simp; try with_reducible rfl
      try simp only [List.getElem_toArray]
      try simp only [List.getElem_cons_succ]
      try simp only [List.getElem_cons_zero]
      try simp only [Act.put]
      try simp only [List.setIfInBounds_toArray]
      try simp only [List.set]
      refine wpAnyH_take (i := 8) (v := ?v40) rfl (by kernel_rfl) (by kernel_rfl) (by kernel_rfl) (fun _ _ _ h => h) (Or.inl ⟨by kernel_rfl, ?h40⟩) hHeld ?_
      case h40 => intro u hSw; have q0 := FU0.out _ hSw; clear hSw; go_simp; try with_reducible rfl
      try simp only [List.getElem_toArray]
      try simp only [List.getElem_cons_succ]
      try simp only [List.getElem_cons_zero]
      try simp only [Act.put]
      try simp only [List.setIfInBounds_toArray]
      try simp only [List.set]
      refine wpAnyH_take (i := 9) (v := ?v41) rfl (by kernel_rfl) (by kernel_rfl) (by kernel_rfl) (fun _ _ _ h => h) (Or.inl ⟨by kernel_rfl, ?h41⟩) hHeld ?_
      case h41 => intro u hSw; (try dsimp only at hSw); go_simp; try with_reducible rfl
      try simp only [List.getElem_toArray]
      try simp only [List.getElem_cons_succ]
      try simp only [List.getElem_cons_zero]
      try simp only [Act.put]
      try simp only [List.setIfInBounds_toArray]
      try simp only [List.set]
      refine wpAnyH_take (i := 10) (v := ?v42) rfl (by kernel_rfl) (by kernel_rfl) (by kernel_rfl) (fun _ _ _ h => h) (Or.inl ⟨by kernel_rfl, ?h42⟩) hHeld ?_
      case h42 => intro u hSw; (try dsimp only at hSw); go_simp; try with_reducible rfl
      try simp only [List.getElem_toArray]
      try simp only [List.getElem_cons_succ]
      try simp only [List.getElem_cons_zero]
      try simp only [Act.put]
      try simp only [List.setIfInBounds_toArray]
      try simp only [List.set]
      refine wpAnyH_take (i := 11) (v := undef) rfl (by kernel_rfl) (by kernel_rfl) (by kernel_rfl) (fun _ _ _ h => h) (Or.inr ⟨by kernel_rfl, rfl⟩) hHeld ?_
      try simp only [List.getElem_toArray]
      try simp only [List.getElem_cons_succ]
      try simp only [List.getElem_cons_zero]
      try simp only [Act.put]
      try simp only [List.setIfInBounds_toArray]
      try simp only [List.set]
      refine wpAnyH_take (i := 12) (v := undef) rfl (by kernel_rfl) (by kernel_rfl) (by kernel_rfl) (fun _ _ _ h => h) (Or.inr ⟨by kernel_rfl, rfl⟩) hHeld ?_
      try simp only [List.getElem_toArray]
      try simp only [List.getElem_cons_succ]
      try simp only [List.getElem_cons_zero]
      try simp only [Act.put]
      try simp only [List.setIfInBounds_toArray]
      try simp only [List.set]
      refine wpAnyH_take (i := 13) (v := undef) rfl (by kernel_rfl) (by kernel_rfl) (by kernel_rfl) (fun _ _ _ h => h) (Or.inr ⟨by kernel_rfl, rfl⟩) hHeld ?_
      try simp only [List.getElem_toArray]
      try simp only [List.getElem_cons_succ]
      try simp only [List.getElem_cons_zero]
      try simp only [Act.put]
      try simp only [List.setIfInBounds_toArray]
      try simp only [List.set]
      refine wpAnyH_take (i := 14) (v := undef) rfl (by kernel_rfl) (by kernel_rfl) (by kernel_rfl) (fun _ _ _ h => h) (Or.inr ⟨by kernel_rfl, rfl⟩) hHeld ?_
      try simp only [List.getElem_toArray]
      try simp only [List.getElem_cons_succ]
      try simp only [List.getElem_cons_zero]
      try simp only [Act.put]
      try simp only [List.setIfInBounds_toArray]
      try simp only [List.set]
      refine wpAnyH_take (i := 15) (v := undef) rfl (by kernel_rfl) (by kernel_rfl) (by kernel_rfl) (fun _ _ _ h => h) (Or.inr ⟨by kernel_rfl, rfl⟩) hHeld ?_
      try simp only [List.getElem_toArray]
      try simp only [List.getElem_cons_succ]
      try simp only [List.getElem_cons_zero]
      try simp only [Act.put]
      try simp only [List.setIfInBounds_toArray]
      try simp only [List.set]
      refine wpAnyH_take (i := 16) (v := undef) rfl (by kernel_rfl) (by kernel_rfl) (by kernel_rfl) (fun _ _ _ h => h) (Or.inr ⟨by kernel_rfl, rfl⟩) hHeld ?_
      try simp only [List.getElem_toArray]
      try simp only [List.getElem_cons_succ]
      try simp only [List.getElem_cons_zero]
      try simp only [Act.put]
      try simp only [List.setIfInBounds_toArray]
      try simp only [List.set]
      refine wpAnyH_take (i := 17) (v := undef) rfl (by kernel_rfl) (by kernel_rfl) (by kernel_rfl) (fun _ _ _ h => h) (Or.inr ⟨by kernel_rfl, rfl⟩) hHeld ?_
      try simp only [List.getElem_toArray]
      try simp only [List.getElem_cons_succ]
      try simp only [List.getElem_cons_zero]
      try simp only [Act.put]
      try simp only [List.setIfInBounds_toArray]
      try simp only [List.set]
      refine wpAnyH_take (i := 18) (v := undef) rfl (by kernel_rfl) (by kernel_rfl) (by kernel_rfl) (fun _ _ _ h => h) (Or.inr ⟨by kernel_rfl, rfl⟩) hHeld ?_
      try simp only [List.getElem_toArray]
      try simp only [List.getElem_cons_succ]
      try simp only [List.getElem_cons_zero]
      try simp only [Act.put]
      try simp only [List.setIfInBounds_toArray]
      try simp only [List.set]
      refine wpAnyH_take (i := 19) (v := undef) rfl (by kernel_rfl) (by kernel_rfl) (by kernel_rfl) (fun _ _ _ h => h) (Or.inr ⟨by kernel_rfl, rfl⟩) hHeld ?_
      try simp only [List.getElem_toArray]
      try simp only [List.getElem_cons_succ]
      try simp only [List.getElem_cons_zero]
      try simp only [Act.put]
      try simp only [List.setIfInBounds_toArray]
      try simp only [List.set]
      refine wpAnyH_take (i := 20) (v := undef) rfl (by kernel_rfl) (by kernel_rfl) (by kernel_rfl) (fun _ _ _ h => h) (Or.inr ⟨by kernel_rfl, rfl⟩) hHeld ?_
      try simp only [List.getElem_toArray]
      try simp only [List.getElem_cons_succ]
      try simp only [List.getElem_cons_zero]
      try simp only [Act.put]
      try simp only [List.setIfInBounds_toArray]
      try simp only [List.set]
      refine wpAnyH_take (i := 21) (v := undef) rfl (by kernel_rfl) (by kernel_rfl) (by kernel_rfl) (fun _ _ _ h => h) (Or.inr ⟨by kernel_rfl, rfl⟩) hHeld ?_
      try simp only [List.getElem_toArray]
      try simp only [List.getElem_cons_succ]
      try simp only [List.getElem_cons_zero]
      try simp only [Act.put]
      try simp only [List.setIfInBounds_toArray]
      try simp only [List.set]
      refine wpAnyH_take (i := 22) (v := undef) rfl (by kernel_rfl) (by kernel_rfl) (by kernel_rfl) (fun _ _ _ h => h) (Or.inr ⟨by kernel_rfl, rfl⟩) hHeld ?_
      try simp only [List.getElem_toArray]
      try simp only [List.getElem_cons_succ]
      try simp only [List.getElem_cons_zero]
      try simp only [Act.put]
      try simp only [List.setIfInBounds_toArray]
      try simp only [List.set]
      refine wpAnyH_take (i := 23) (v := undef) rfl (by kernel_rfl) (by kernel_rfl) (by kernel_rfl) (fun _ _ _ h => h) (Or.inr ⟨by kernel_rfl, rfl⟩) hHeld ?_
      try simp only [List.getElem_toArray]
      try simp only [List.getElem_cons_succ]
      try simp only [List.getElem_cons_zero]
      try simp only [Act.put]
      try simp only [List.setIfInBounds_toArray]
      try simp only [List.set]
      refine wpAnyH_take (i := 24) (v := undef) rfl (by kernel_rfl) (by kernel_rfl) (by kernel_rfl) (fun _ _ _ h => h) (Or.inr ⟨by kernel_rfl, rfl⟩) hHeld ?_
      try simp only [List.getElem_toArray]
      try simp only [List.getElem_cons_succ]
      try simp only [List.getElem_cons_zero]
      try simp only [Act.put]
      try simp only [List.setIfInBounds_toArray]
      try simp only [List.set]
      refine wpAnyH_take (i := 25) (v := undef) rfl (by kernel_rfl) (by kernel_rfl) (by kernel_rfl) (fun _ _ _ h => h) (Or.inr ⟨by kernel_rfl, rfl⟩) hHeld ?_
      try simp only [List.getElem_toArray]
      try simp only [List.getElem_cons_succ]
      try simp only [List.getElem_cons_zero]
      try simp only [Act.put]
      try simp only [List.setIfInBounds_toArray]
      try simp only [List.set]
      refine wpAnyH_take (i := 26) (v := undef) rfl (by kernel_rfl) (by kernel_rfl) (by kernel_rfl) (fun _ _ _ h => h) (Or.inr ⟨by kernel_rfl, rfl⟩) hHeld ?_
      try simp only [List.getElem_toArray]
      try simp only [List.getElem_cons_succ]
      try simp only [List.getElem_cons_zero]
      try simp only [Act.put]
      try simp only [List.setIfInBounds_toArray]
      try simp only [List.set]
      refine wpAnyH_take (i := 27) (v := undef) rfl (by kernel_rfl) (by kernel_rfl) (by kernel_rfl) (fun _ _ _ h => h) (Or.inr ⟨by kernel_rfl, rfl⟩) hHeld ?_
      try simp only [List.getElem_toArray]
      try simp only [List.getElem_cons_succ]
      try simp only [List.getElem_cons_zero]
      try simp only [Act.put]
      try simp only [List.setIfInBounds_toArray]
      try simp only [List.set]
      refine wpAnyH_take (i := 28) (v := undef) rfl (by kernel_rfl) (by kernel_rfl) (by kernel_rfl) (fun _ _ _ h => h) (Or.inr ⟨by kernel_rfl, rfl⟩) hHeld ?_
      try simp only [List.getElem_toArray]
      try simp only [List.getElem_cons_succ]
      try simp only [List.getElem_cons_zero]
      try simp only [Act.put]
      try simp only [List.setIfInBounds_toArray]
      try simp only [List.set]
      refine wpAnyH_take (i := 29) (v := undef) rfl (by kernel_rfl) (by kernel_rfl) (by kernel_rfl) (fun _ _ _ h => h) (Or.inr ⟨by kernel_rfl, rfl⟩) hHeld ?_
      try simp only [List.getElem_toArray]
      try simp only [List.getElem_cons_succ]
      try simp only [List.getElem_cons_zero]
      try simp only [Act.put]
      try simp only [List.setIfInBounds_toArray]
      try simp only [List.set]
      refine wpAnyH_take (i := 30) (v := undef) rfl (by kernel_rfl) (by kernel_rfl) (by kernel_rfl) (fun _ _ _ h => h) (Or.inr ⟨by kernel_rfl, rfl⟩) hHeld ?_
      try simp only [List.getElem_toArray]
      try simp only [List.getElem_cons_succ]
      try simp only [List.getElem_cons_zero]
      try simp only [Act.put]
      try simp only [List.setIfInBounds_toArray]
      try simp only [List.set]
      refine wpAnyH_take (i := 31) (v := undef) rfl (by kernel_rfl) (by kernel_rfl) (by kernel_rfl) (fun _ _ _ h => h) (Or.inr ⟨by kernel_rfl, rfl⟩) hHeld ?_
      try simp only [List.getElem_toArray]
      try simp only [List.getElem_cons_succ]
      try simp only [List.getElem_cons_zero]
      try simp only [Act.put]
      try simp only [List.setIfInBounds_toArray]
      try simp only [List.set]
      refine wpAnyH_take (i := 32) (v := undef) rfl (by kernel_rfl) (by kernel_rfl) (by kernel_rfl) (fun _ _ _ h => h) (Or.inr ⟨by kernel_rfl, rfl⟩) hHeld ?_
      try simp only [List.getElem_toArray]
      try simp only [List.getElem_cons_succ]
      try simp only [List.getElem_cons_zero]
      try simp only [Act.put]
      try simp only [List.setIfInBounds_toArray]
      try simp only [List.set]
      refine wpAnyH_take (i := 33) (v := ?v43) rfl (by kernel_rfl) (by kernel_rfl) (by kernel_rfl) (fun _ _ _ h => h) (Or.inl ⟨by kernel_rfl, ?h43⟩) hHeld ?_
      case h43 => intro u hSw; (try dsimp only at hSw); go_simp; try with_reducible rfl
      try simp only [List.getElem_toArray]
      try simp only [List.getElem_cons_succ]
      try simp only [List.getElem_cons_zero]
      try simp only [Act.put]
      try simp only [List.setIfInBounds_toArray]
      try simp only [List.set]
      refine wpAnyH_take (i := 34) (v := ?v44) rfl (by kernel_rfl) (by kernel_rfl) (by kernel_rfl) (fun _ _ _ h => h) (Or.inl ⟨by kernel_rfl, ?h44⟩) hHeld ?_
      case h44 => intro u hSw; (try dsimp only at hSw); go_simp; try with_reducible rfl
      try simp only [List.getElem_toArray]
      try simp only [List.getElem_cons_succ]
      try simp only [List.getElem_cons_zero]
      try simp only [Act.put]
      try simp only [List.setIfInBounds_toArray]
      try simp only [List.set]
      refine wpAnyH_done (by kernel_rfl) ?_ _
      go_wp2_with fail
      go_meet
      case rel => exact ⟨rfl, hHeld⟩
  case rest =>
    obtain ⟨rfl, hFc⟩ := hcut
    clear hF HRS HUb FU0 FU1 FU2 FU3 FU4 FU5 FUn HNext
    go_wp2_with fail
    refine (HDp.out _ (FG.out _ hFc)).mono ?_
    rintro e w3 hp
    obtain ⟨k, tx, pg, ra, l, rc, P, A, C, Z, rfl, hOk, hR, hb⟩ := hp
    have hF3 := HFU.out _ _ hb hFc
    clear hb hFc HDp
    go_upto_region 8 with (fail)
    generalize hY2 : World.alloc w3 _ = Y2
    have gY : Below w3.heap.size w3 Y2 := by rw [← hY2]; go_grown
    have R0 : Y2.cell? ⟨w3.heap.size, 0, none⟩ = some (.int .i64 k) := by rw [← hY2]; simp [go_sem]
    have R1 : Y2.cell? ⟨w3.heap.size, 1, none⟩ = some (.int .i64 tx) := by rw [← hY2]; simp [go_sem]
    have R2 : Y2.cell? ⟨w3.heap.size, 2, none⟩ = some (.int .i64 pg) := by rw [← hY2]; simp [go_sem]
    have R3 : Y2.cell? ⟨w3.heap.size, 3, none⟩ = some (.slice ra l rc) := by rw [← hY2]; simp [go_sem]
    have hR := hR.below gY (Nat.le_refl _)
    have hF3 := HFU.out _ _ gY hF3
    generalize w3.heap.size = rb at R0 R1 R2 R3 ⊢
    clear hY2 gY
    have HOk : Hid (RnOk l Z) := hOk
    clear hOk
    have HI : Hid (∀ X, RunsRead X ra l P A C Z → Calls Tryd.prog 10 #[.agg #[.int .i64 k, .int .i64 tx, .int .i64 pg, .slice ra l rc]] X fun e w' => ∃ a' d', e = .returned (.agg #[.int .i64 (rcQ ⟨k, tx, pg, l, P, Z⟩), .slice a' (rcB ⟨k, tx, pg, l, P, Z⟩).length d']) ∧ (rcB ⟨k, tx, pg, l, P, Z⟩).length ≤ d' ∧ d' ≤ 9223372036854775807 ∧ Below X.heap.size X w' ∧ BytesIn X.heap.size w'.heap.size w' a' (rcB ⟨k, tx, pg, l, P, Z⟩)) := fun X h =>
      implPackRecordC_any k tx pg ra l rc P A C Z X (by have := HOk.out.few; omega) (fun i hi => by have := HOk.out.len i hi; omega) HOk.out.bd h
    have HS : Hid (∀ X, RunsRead X ra l P A C Z → Calls Tryd.prog 12 #[.agg #[.int .i64 k, .int .i64 tx, .int .i64 pg, .slice ra l rc]] X fun e w' => ∃ a' m' d', e = .returned (.agg #[.int .i64 (rcQ ⟨k, tx, pg, l, P, Z⟩), .slice a' m' d']) ∧ Below X.heap.size X w') := fun X h => by
      refine (specPackRecord_any k tx pg ra l rc P A C Z X (by have := HOk.out.few; omega) (fun i hi => by have := HOk.out.len i hi; omega) HOk.out.bd h).mono ?_
      rintro e w' ⟨a', d', he, _, hb, _⟩
      exact ⟨a', _, d', he, hb⟩
    have HRf : Hid (∀ X, RunsRead X ra l P A C Z → Calls Tryd.prog 13 #[.agg #[.int .i64 k, .int .i64 tx, .int .i64 pg, .slice ra l rc]] X fun e w' => e = .returned (.int .i64 (rcQ ⟨k, tx, pg, l, P, Z⟩)) ∧ Below X.heap.size X w') := fun X h =>
      implRecordFault_any k tx pg ra l rc P A C Z X (by have := HOk.out.few; omega) (fun i hi => by have := HOk.out.len i hi; omega) h
    have HTI : Hid (∀ X, RunsRead X ra l P A C Z → Below w.heap.size w X → Calls Tryd.prog 15 #[.agg #[.int .i64 k, .int .i64 tx, .int .i64 pg, .slice ra l rc]] X fun e w' => e = .returned (.agg #[.int .i64 (rcQ ⟨k, tx, pg, l, P, Z⟩), .string (txB k tx pg l P Z)]) ∧ Below X.heap.size X w') := fun X h g =>
      implRecordText_any k tx pg ra l rc P A C Z X (by have := HOk.out.few; have := HOk.out.tot; omega) (fun i hi => by have := HOk.out.len i hi; omega) h (HTab.out X g)
    have HTS : Hid (∀ X, RunsRead X ra l P A C Z → Calls Tryd.prog 16 #[.agg #[.int .i64 k, .int .i64 tx, .int .i64 pg, .slice ra l rc]] X fun e w' => e = .returned (.agg #[.int .i64 (rcQ ⟨k, tx, pg, l, P, Z⟩), .string (txB k tx pg l P Z)]) ∧ Below X.heap.size X w') := fun X h =>
      specRecordText_any k tx pg ra l rc P A C Z X (by have := HOk.out.few; have := HOk.out.tot; omega) (fun i hi => by have := HOk.out.len i hi; omega) h
    have HBb : Hid (∀ z ∈ rcB ⟨k, tx, pg, l, P, Z⟩, 0 ≤ z ∧ z ≤ 255) := fun z hz => by
      unfold rcB pkB at hz
      simp only at hz
      split at hz
      · rename_i hq
        have hok := rec_runs hq HOk.out.bd
        exact packB_bd hok.few hok.tot hok.both z hz
      · simp at hz
    have HPos : Hid (rcQ ⟨k, tx, pg, l, P, Z⟩ = 0 → 7 ≤ (rcB ⟨k, tx, pg, l, P, Z⟩).length ∧ (rcB ⟨k, tx, pg, l, P, Z⟩).length ≤ 200) := rcB_pos
    have HPB : Hid (rcQ ⟨k, tx, pg, l, P, Z⟩ = 0 → ∀ T, OkI (rcB ⟨k, tx, pg, l, P, Z⟩ ++ T) ∧ len0 (rcB ⟨k, tx, pg, l, P, Z⟩ ++ T) = (rcB ⟨k, tx, pg, l, P, Z⟩).length ∧ sameR ⟨kR (rcB ⟨k, tx, pg, l, P, Z⟩ ++ T) 1, kR (rcB ⟨k, tx, pg, l, P, Z⟩ ++ T) 2, kR (rcB ⟨k, tx, pg, l, P, Z⟩ ++ T) 3, nR (rcB ⟨k, tx, pg, l, P, Z⟩ ++ T), rP (rcB ⟨k, tx, pg, l, P, Z⟩ ++ T), rZ (rcB ⟨k, tx, pg, l, P, Z⟩ ++ T)⟩ ⟨k, tx, pg, l, P, Z⟩ = true) := pack_back
    have HCu : Hid (rcQ ⟨k, tx, pg, l, P, Z⟩ = 0 → ¬ OkI ((rcB ⟨k, tx, pg, l, P, Z⟩).take ((rcB ⟨k, tx, pg, l, P, Z⟩).length - 1))) := cut_none
    generalize txB k tx pg l P Z = TX at HTI HTS
    generalize rcB ⟨k, tx, pg, l, P, Z⟩ = B at HI HBb HPos HPB HCu
    generalize rcQ ⟨k, tx, pg, l, P, Z⟩ = q at HI HS HRf HTI HTS HPos HPB HCu
    clear HTab
    go_wp2_with fail
    refine (HI.out _ hR).mono ?_
    rintro e w4 ⟨ba, bc, rfl, hbc, hbm, hb, hBy⟩
    have hBr := hBy.reads
    have R0 := cellUp hb R0
    have R1 := cellUp hb R1
    have R2 := cellUp hb R2
    have R3 := cellUp hb R3
    have hR := hR.below hb (Nat.le_refl _)
    have hF3 := HFU.out _ _ hb hF3
    clear hb hBy HI
    obtain ⟨bn, hbn⟩ : ∃ bn, B.length = bn := ⟨_, rfl⟩
    have HBn : Hid (B.length = bn) := hbn
    rw [hbn] at hbc ⊢
    clear hbn
    go_upto_region 9 with (fail)
    generalize hY3 : World.alloc w4 _ = Y3
    have gY : Below w4.heap.size w4 Y3 := by rw [← hY3]; go_grown
    have B0 : Y3.cell? ⟨w4.heap.size, 0, none⟩ = some (.int .i64 q) := by rw [← hY3]; simp [go_sem]
    have B1 : Y3.cell? ⟨w4.heap.size, 1, none⟩ = some (.slice ba bn bc) := by rw [← hY3]; simp [go_sem]
    have R0 := cellUp gY R0
    have R1 := cellUp gY R1
    have R2 := cellUp gY R2
    have R3 := cellUp gY R3
    have hR := hR.below gY (Nat.le_refl _)
    have hBr := hBr.below gY (Nat.le_refl _)
    have hF3 := HFU.out _ _ gY hF3
    generalize w4.heap.size = bb at B0 B1 ⊢
    clear hY3 gY
    have hD := FD.out _ hF3
    have hT := FG.out _ hF3
    clear hF3 HFU FD FG
    obtain ⟨G, hGd⟩ : ∃ G : World → Prop, G = fun V => (Reads V da ds) ∧ (V.cell? ⟨rb, 0, none⟩ = some (.int .i64 k)) ∧ (V.cell? ⟨rb, 1, none⟩ = some (.int .i64 tx)) ∧ (V.cell? ⟨rb, 2, none⟩ = some (.int .i64 pg)) ∧ (V.cell? ⟨rb, 3, none⟩ = some (.slice ra l rc)) ∧ (RunsRead V ra l P A C Z) ∧ (V.cell? ⟨bb, 0, none⟩ = some (.int .i64 q)) ∧ (V.cell? ⟨bb, 1, none⟩ = some (.slice ba bn bc)) ∧ (Reads V ba B) ∧ (Below w.heap.size w V) := ⟨_, rfl⟩
    have hG : G Y3 := by rw [hGd]; exact ⟨hD, R0, R1, R2, R3, hR, B0, B1, hBr, hT⟩
    have HGU : Hid (∀ V W, Below V.heap.size V W → G V → G W) := fun V W hb h => by
      rw [hGd] at h ⊢
      exact ⟨h.1.below hb (Nat.le_refl _), cellUp hb h.2.1, cellUp hb h.2.2.1, cellUp hb h.2.2.2.1, cellUp hb h.2.2.2.2.1, h.2.2.2.2.2.1.below hb (Nat.le_refl _), cellUp hb h.2.2.2.2.2.2.1, cellUp hb h.2.2.2.2.2.2.2.1, h.2.2.2.2.2.2.2.2.1.below hb (Nat.le_refl _), h.2.2.2.2.2.2.2.2.2.trans (hb.mono h.2.2.2.2.2.2.2.2.2.size)⟩
    have GD : Hid (∀ V, G V → Reads V da ds) := fun V h => by rw [hGd] at h; exact h.1
    have GR0 : Hid (∀ V, G V → V.cell? ⟨rb, 0, none⟩ = some (.int .i64 k)) := fun V h => by rw [hGd] at h; exact h.2.1
    have GR1 : Hid (∀ V, G V → V.cell? ⟨rb, 1, none⟩ = some (.int .i64 tx)) := fun V h => by rw [hGd] at h; exact h.2.2.1
    have GR2 : Hid (∀ V, G V → V.cell? ⟨rb, 2, none⟩ = some (.int .i64 pg)) := fun V h => by rw [hGd] at h; exact h.2.2.2.1
    have GR3 : Hid (∀ V, G V → V.cell? ⟨rb, 3, none⟩ = some (.slice ra l rc)) := fun V h => by rw [hGd] at h; exact h.2.2.2.2.1
    have GRn : Hid (∀ V, G V → RunsRead V ra l P A C Z) := fun V h => by rw [hGd] at h; exact h.2.2.2.2.2.1
    have GB0 : Hid (∀ V, G V → V.cell? ⟨bb, 0, none⟩ = some (.int .i64 q)) := fun V h => by rw [hGd] at h; exact h.2.2.2.2.2.2.1
    have GB1 : Hid (∀ V, G V → V.cell? ⟨bb, 1, none⟩ = some (.slice ba bn bc)) := fun V h => by rw [hGd] at h; exact h.2.2.2.2.2.2.2.1
    have GBy : Hid (∀ V, G V → Reads V ba B) := fun V h => by rw [hGd] at h; exact h.2.2.2.2.2.2.2.2.1
    have GT : Hid (∀ V, G V → Below w.heap.size w V) := fun V h => by rw [hGd] at h; exact h.2.2.2.2.2.2.2.2.2
    clear hGd
    clear hD R1 R2 R3 hR B1 hBr hT R0
    by_cases hq : q = 0
    · subst hq
      have hpos := HPos.out rfl
      have hpb := HPB.out rfl
      have hcu := HCu.out rfl
      clear HS HRf HPos HPB HCu
      have hbl : 7 ≤ bn ∧ bn ≤ 200 := by rw [← HBn.out]; exact hpos
      obtain ⟨fk, fl, fs⟩ := hpb ds
      rw [HBn.out] at hcu fl
      obtain ⟨m, hm⟩ : ∃ m, bn - 1 = m := ⟨_, rfl⟩
      rw [hm] at hcu
      have HCut : Hid (∀ X, Reads X ba B → Calls Tryd.prog 7 #[.slice ba m bc] X fun e w' => ∃ (u : Nat) (u1 u2 u3 : Int) (p : Option Addr) (n' c' : Nat), e = .returned (.agg #[.int .i64 5, .int .i64 u, .int .i64 u1, .int .i64 u2, .int .i64 u3, .slice p n' c']) ∧ Below X.heap.size X w') := fun X h => by
        have hl : (B.take m).length = m := by rw [List.length_take, HBn.out]; omega
        have h1 := implReadRecord_any (B.take m) ba bc X (by omega) (by omega) hbm (h.take m) (fun z hz => HBb.out z (List.mem_of_mem_take hz))
        rw [hl] at h1
        refine h1.mono ?_
        rintro e w' ⟨a', c', A', C', F', he, hb, _⟩
        rw [(rr_no hcu).1] at he
        exact ⟨_, _, _, _, _, _, _, he, hb⟩
      have HFb : Hid (∀ z ∈ B ++ ds, 0 ≤ z ∧ z ≤ 255) := fun z hz => by
        rcases List.mem_append.1 hz with h | h
        · exact HBb.out z h
        · exact hdb z h
      have HFl : Hid ((B ++ ds).length = bn + ds.length) := by show _ = _; rw [List.length_append, HBn.out]
      have HKm : Hid (bn - 1 = m ∧ 7 ≤ bn ∧ bn ≤ 200 ∧ bn ≤ bc) := ⟨hm, hbl.1, hbl.2, hbc⟩
      have HFs : Hid (OkI (B ++ ds) ∧ len0 (B ++ ds) = bn ∧ sameR ⟨kR (B ++ ds) 1, kR (B ++ ds) 2, kR (B ++ ds) 3, nR (B ++ ds), rP (B ++ ds), rZ (B ++ ds)⟩ ⟨k, tx, pg, l, P, Z⟩ = true) := ⟨fk, fl, fs⟩
      clear hpos hpb hcu fk fl fs hm hbl hbc
      go_upto_region 11 with (fail)
      clear B0
      have hG0 := Gb.lit Y3.heap.size Y3 (Nat.le_refl _)
      have g0 : Below Y3.heap.size Y3 (Y3.alloc (.cells #[] 5)) := by go_grown
      have hG1 := HGU.out _ _ g0 hG
      have b1 := GB1.out _ hG1
      go_wp2_with (at_builtin; refine wpList_append_bytes _ rfl _ _ rfl Y3.heap.size _ [] B ba bn bc rfl rfl HBn.out hG0 (GBy.out _ hG1) ?n1 ?n2 ?_)
      case n1 => rw [HBn.out]; have := HKm.out; simp; omega
      case n2 => simp
      intro v5 w5 hG5 hgr hat
      have g5 : Below Y3.heap.size Y3 w5 := Below.grown g0 hgr (by simp) (fun q e => by simp [Value.ownBlock] at e; omega)
      clear hgr hat hG0 g0 hG1 b1
      have hGw := HGU.out _ _ g5 hG
      go_wp2_with (at_builtin; refine wpList_append_bytes _ rfl _ _ rfl Y3.heap.size _ B ds da ds.length dc rfl rfl rfl hG5 (GD.out _ hGw) ?n1 g5.size ?_)
      case n1 => rw [HBn.out]; have := HKm.out; omega
      intro v6 w6 hG6 hgr hat
      have g6 : Below Y3.heap.size Y3 w6 := Below.grown g5 hgr g5.size (fun q e => (World.ownsRow.lt hG5 q e).1)
      have hGv := HGU.out _ _ g6 hG
      clear hgr hat hG5 g5 hGw hG
      generalize B ++ ds = FF at hG6 HFs HFl HFb
      obtain ⟨xa, xc, rfl, hxc, hxm, hxb, -⟩ := hG6.shape
      have hx := hxb.reads
      clear hxb hG6 g6
      go_wp2_with fail
      refine (implReadRecord_any FF xa xc _ (by rw [HFl.out]; have := HKm.out; omega) hxc hxm hx HFb.out).mono ?_
      rintro e w7 ⟨ya, yc, YA, YC, YF, rfl, hb, hO⟩
      have hXn := hO.rr
      have hGv := HGU.out _ _ hb hGv
      have hf1 := (rr_yes HFs.out.1).1
      have hf2 := (rr_yes HFs.out.1).2.1
      rw [HFs.out.2.1] at hf2
      rw [hf1, hf2]
      have HNs : Hid (nR FF ≤ 1000 ∧ ∀ j, j < nR FF → ∀ z ∈ rZ FF j, 0 ≤ z ∧ z ≤ 255) := ⟨nR_small (by rw [HFl.out]; have := HKm.out; omega), fun j _ => rZ_bd HFb.out j⟩
      have HSR : Hid (∀ X p1 c1 p2 c2, RecsRead X p1 1 (fun _ => ⟨kR FF 1, kR FF 2, kR FF 3, nR FF, rP FF, rZ FF⟩) (fun _ => ⟨ya, yc, YA, YC, fun _ => 0, 0, 0⟩) → RecsRead X p2 1 (fun _ => ⟨k, tx, pg, l, P, Z⟩) (fun _ => ⟨ra, rc, A, C, fun _ => 0, 0, 0⟩) → Calls Tryd.prog 14 #[.slice p1 1 c1, .slice p2 1 c2] X fun e w' => e = .returned (.bool true) ∧ Below X.heap.size X w') := fun X p1 c1 p2 c2 h1 h2 => by
        have hs := implSameRecords_any p1 p2 1 1 c1 c2 _ _ _ _ X (by omega) (by omega) h1 h2 (fun i _ => ⟨by have := HNs.out.1; simp only; omega, HNs.out.2⟩) (fun i _ => ⟨by have := HOk.out.few; simp only; omega, HOk.out.bd⟩)
        have hsq : sameQ 1 1 (fun _ => (⟨kR FF 1, kR FF 2, kR FF 3, nR FF, rP FF, rZ FF⟩ : Rc)) (fun _ => ⟨k, tx, pg, l, P, Z⟩) = true := by
          unfold sameQ sameL sameL
          rw [HFs.out.2.2]
          rfl
        rw [hsq] at hs
        exact hs
      clear hf1 hf2 hx hxc hxm hO hb HFs HFl HFb HNs
      generalize kR FF 1 = y1 at HSR ⊢
      generalize kR FF 2 = y2 at HSR ⊢
      generalize kR FF 3 = y3 at HSR ⊢
      generalize nR FF = yn at HSR hXn ⊢
      generalize rP FF = YP at HSR hXn ⊢
      generalize rZ FF = YZ at HSR hXn ⊢
      go_upto_region 12 with (fail)
      generalize hY4 : World.alloc w7 _ = Y4
      have gY : Below w7.heap.size w7 Y4 := by rw [← hY4]; go_grown
      have X0 : Y4.cell? ⟨w7.heap.size, 0, none⟩ = some (.int .i64 0) := by rw [← hY4]; simp [go_sem]
      have X1 : Y4.cell? ⟨w7.heap.size, 1, none⟩ = some (.int .i64 bn) := by rw [← hY4]; simp [go_sem]
      have X2 : Y4.cell? ⟨w7.heap.size, 2, none⟩ = some (.int .i64 y1) := by rw [← hY4]; simp [go_sem]
      have X3 : Y4.cell? ⟨w7.heap.size, 3, none⟩ = some (.int .i64 y2) := by rw [← hY4]; simp [go_sem]
      have X4 : Y4.cell? ⟨w7.heap.size, 4, none⟩ = some (.int .i64 y3) := by rw [← hY4]; simp [go_sem]
      have X5 : Y4.cell? ⟨w7.heap.size, 5, none⟩ = some (.slice ya yn yc) := by rw [← hY4]; simp [go_sem]
      have hXn := hXn.below gY (Nat.le_refl _)
      have hGv := HGU.out _ _ gY hGv
      generalize w7.heap.size = xb at X0 X1 X2 X3 X4 X5 ⊢
      clear hY4 gY
      obtain ⟨M, hMd⟩ : ∃ M : World → Prop, M = fun V => (G V) ∧ (V.cell? ⟨xb, 0, none⟩ = some (.int .i64 0)) ∧ (V.cell? ⟨xb, 1, none⟩ = some (.int .i64 bn)) ∧ (V.cell? ⟨xb, 2, none⟩ = some (.int .i64 y1)) ∧ (V.cell? ⟨xb, 3, none⟩ = some (.int .i64 y2)) ∧ (V.cell? ⟨xb, 4, none⟩ = some (.int .i64 y3)) ∧ (V.cell? ⟨xb, 5, none⟩ = some (.slice ya yn yc)) ∧ (RunsRead V ya yn YP YA YC YZ) := ⟨_, rfl⟩
      have hM : M Y4 := by rw [hMd]; exact ⟨hGv, X0, X1, X2, X3, X4, X5, hXn⟩
      have HMU : Hid (∀ V W, Below V.heap.size V W → M V → M W) := fun V W hb h => by
        rw [hMd] at h ⊢
        exact ⟨HGU.out _ _ hb h.1, cellUp hb h.2.1, cellUp hb h.2.2.1, cellUp hb h.2.2.2.1, cellUp hb h.2.2.2.2.1, cellUp hb h.2.2.2.2.2.1, cellUp hb h.2.2.2.2.2.2.1, h.2.2.2.2.2.2.2.below hb (Nat.le_refl _)⟩
      have MG : Hid (∀ V, M V → G V) := fun V h => by rw [hMd] at h; exact h.1
      have MX0 : Hid (∀ V, M V → V.cell? ⟨xb, 0, none⟩ = some (.int .i64 0)) := fun V h => by rw [hMd] at h; exact h.2.1
      have MX1 : Hid (∀ V, M V → V.cell? ⟨xb, 1, none⟩ = some (.int .i64 bn)) := fun V h => by rw [hMd] at h; exact h.2.2.1
      have MX2 : Hid (∀ V, M V → V.cell? ⟨xb, 2, none⟩ = some (.int .i64 y1)) := fun V h => by rw [hMd] at h; exact h.2.2.2.1
      have MX3 : Hid (∀ V, M V → V.cell? ⟨xb, 3, none⟩ = some (.int .i64 y2)) := fun V h => by rw [hMd] at h; exact h.2.2.2.2.1
      have MX4 : Hid (∀ V, M V → V.cell? ⟨xb, 4, none⟩ = some (.int .i64 y3)) := fun V h => by rw [hMd] at h; exact h.2.2.2.2.2.1
      have MX5 : Hid (∀ V, M V → V.cell? ⟨xb, 5, none⟩ = some (.slice ya yn yc)) := fun V h => by rw [hMd] at h; exact h.2.2.2.2.2.2.1
      have MXn : Hid (∀ V, M V → RunsRead V ya yn YP YA YC YZ) := fun V h => by rw [hMd] at h; exact h.2.2.2.2.2.2.2
      clear hMd
      have b1 := GB1.out _ hGv
      clear X0 X1 X2 X3 X4 X5 hXn hGv
      go_upto_region 13 with (fail)
      clear b1
      obtain ⟨km, k7, k200, kbc⟩ := HKm.out
      have c1 : (6 : Int) < (bn : Int) := by omega
      have c2 : 6 < bn := by omega
      have c3 : (bn : Int) < 256 := by omega
      have c4 : bn < 256 := by omega
      have c5 : decide ((6 : Int) < (bn : Int)) = true := by simpa using c1
      have c6 : decide ((bn : Int) < 256) = true := by simpa using c3
      have c7 : IntKind.i64.wrap ((bn : Int) - 1) = (m : Int) := by simp [IntKind.wrap, IntKind.bits, IntKind.signed]; omega
      have c8 : (m : Int) ≤ (bc : Int) := by omega
      have c9 : m ≤ bc := by omega
      clear km k7 k200 kbc
      refine wp_region_held_drew (S := M) (by kernel_rfl) (HMU.out _ _ (Below.refl _ Y4).drew hM) (fun hHeld => ?_)
      generalize Y4.drew = V at hHeld ⊢
      clear hM
      refine wpAnyH_take (i := 0) (v := ?v57) rfl (by kernel_rfl) (by kernel_rfl) (by kernel_rfl) (fun _ _ _ h => h) (Or.inl ⟨by kernel_rfl, ?h57⟩) hHeld ?_
      case h57 => intro u hSw; (try dsimp only at hSw); go_simp; try with_reducible rfl
      try simp only [List.getElem_toArray]
      try simp only [List.getElem_cons_succ]
      try simp only [List.getElem_cons_zero]
      try simp only [Act.put]
      try simp only [List.setIfInBounds_toArray]
      try simp only [List.set]
      refine wpAnyH_take (i := 1) (v := ?v58) rfl (by kernel_rfl) (by kernel_rfl) (by kernel_rfl) (fun _ _ _ h => h) (Or.inl ⟨by kernel_rfl, ?h58⟩) hHeld ?_
      case h58 => intro u hSw; have q0 := MX0.out _ hSw; clear hSw; go_simp; try with_reducible rfl
      try simp only [List.getElem_toArray]
      try simp only [List.getElem_cons_succ]
      try simp only [List.getElem_cons_zero]
      try simp only [Act.put]
      try simp only [List.setIfInBounds_toArray]
      try simp only [List.set]
      refine wpAnyH_take (i := 2) (v := ?v59) rfl (by kernel_rfl) (by kernel_rfl) (by kernel_rfl) (fun _ _ _ h => h) (Or.inl ⟨by kernel_rfl, ?h59⟩) hHeld ?_
      case h59 => intro u hSw; (try dsimp only at hSw); go_simp; try with_reducible rfl
      try simp only [List.getElem_toArray]
      try simp only [List.getElem_cons_succ]
      try simp only [List.getElem_cons_zero]
      try simp only [Act.put]
      try simp only [List.setIfInBounds_toArray]
      try simp only [List.set]
      refine wpAnyH_take (i := 3) (v := ?v60) rfl (by kernel_rfl) (by kernel_rfl) (by kernel_rfl) (fun _ _ _ h => h) (Or.inl ⟨by kernel_rfl, ?h60⟩) hHeld ?_
      case h60 => intro u hSw; (try dsimp only at hSw); go_simp; try with_reducible rfl
      try simp only [List.getElem_toArray]
      try simp only [List.getElem_cons_succ]
      try simp only [List.getElem_cons_zero]
      try simp only [Act.put]
      try simp only [List.setIfInBounds_toArray]
      try simp only [List.set]
      refine wpAnyH_take (i := 4) (v := ?v61) rfl (by kernel_rfl) (by kernel_rfl) (by kernel_rfl) (fun _ _ _ h => h) (Or.inl ⟨by kernel_rfl, ?h61⟩) hHeld ?_
      case h61 => intro u hSw; (try dsimp only at hSw); go_simp; try with_reducible rfl
      try simp only [List.getElem_toArray]
      try simp only [List.getElem_cons_succ]
      try simp only [List.getElem_cons_zero]
      try simp only [Act.put]
      try simp only [List.setIfInBounds_toArray]
      try simp only [List.set]
      refine wpAnyH_take (i := 5) (v := ?v62) rfl (by kernel_rfl) (by kernel_rfl) (by kernel_rfl) (fun _ _ _ h => h) (Or.inl ⟨by kernel_rfl, ?h62⟩) hHeld ?_
      case h62 => intro u hSw; have q0 := MX1.out _ hSw; clear hSw; go_simp; try with_reducible rfl
      try simp only [List.getElem_toArray]
      try simp only [List.getElem_cons_succ]
      try simp only [List.getElem_cons_zero]
      try simp only [Act.put]
      try simp only [List.setIfInBounds_toArray]
      try simp only [List.set]
      refine wpAnyH_take (i := 6) (v := ?v63) rfl (by kernel_rfl) (by kernel_rfl) (by kernel_rfl) (fun _ _ _ h => h) (Or.inl ⟨by kernel_rfl, ?h63⟩) hHeld ?_
      case h63 => intro u hSw; (try dsimp only at hSw); go_simp; try with_reducible rfl
      try simp only [List.getElem_toArray]
      try simp only [List.getElem_cons_succ]
      try simp only [List.getElem_cons_zero]
      try simp only [Act.put]
      try simp only [List.setIfInBounds_toArray]
      try simp only [List.set]
      refine wpAnyH_take (i := 7) (v := ?v64) rfl (by kernel_rfl) (by kernel_rfl) (by kernel_rfl) (fun _ _ _ h => h) (Or.inl ⟨by kernel_rfl, ?h64⟩) hHeld ?_
      case h64 => intro u hSw; (try dsimp only at hSw); go_simp; try with_reducible rfl
      try simp only [List.getElem_toArray]
      try simp only [List.getElem_cons_succ]
      try simp only [List.getElem_cons_zero]
      try simp only [Act.put]
      try simp only [List.setIfInBounds_toArray]
      try simp only [List.set]
      refine wpAnyH_take (i := 8) (v := ?v65) rfl (by kernel_rfl) (by kernel_rfl) (by kernel_rfl) (fun _ _ _ h => h) (Or.inl ⟨by kernel_rfl, ?h65⟩) hHeld ?_
      case h65 => intro u hSw; (try dsimp only at hSw); go_simp; try with_reducible rfl
      try simp only [List.getElem_toArray]
      try simp only [List.getElem_cons_succ]
      try simp only [List.getElem_cons_zero]
      try simp only [Act.put]
      try simp only [List.setIfInBounds_toArray]
      try simp only [List.set]
      refine wpAnyH_take (i := 9) (v := ?v66) rfl (by kernel_rfl) (by kernel_rfl) (by kernel_rfl) (fun _ _ _ h => h) (Or.inl ⟨by kernel_rfl, ?h66⟩) hHeld ?_
      case h66 => intro u hSw; (try dsimp only at hSw); go_simp; try with_reducible rfl
      try simp only [List.getElem_toArray]
      try simp only [List.getElem_cons_succ]
      try simp only [List.getElem_cons_zero]
      try simp only [Act.put]
      try simp only [List.setIfInBounds_toArray]
      try simp only [List.set]
      refine wpAnyH_take (i := 10) (v := ?v67) rfl (by kernel_rfl) (by kernel_rfl) (by kernel_rfl) (fun _ _ _ h => h) (Or.inl ⟨by kernel_rfl, ?h67⟩) hHeld ?_
      case h67 => intro u hSw; (try dsimp only at hSw); go_simp; try with_reducible rfl
      try simp only [List.getElem_toArray]
      try simp only [List.getElem_cons_succ]
      try simp only [List.getElem_cons_zero]
      try simp only [Act.put]
      try simp only [List.setIfInBounds_toArray]
      try simp only [List.set]
      refine wpAnyH_take (i := 11) (v := ?v68) rfl (by kernel_rfl) (by kernel_rfl) (by kernel_rfl) (fun _ _ _ h => h) (Or.inl ⟨by kernel_rfl, ?h68⟩) hHeld ?_
      case h68 => intro u hSw; have q0 := MX2.out _ hSw; have q1 := MX3.out _ hSw; have q2 := MX4.out _ hSw; have q3 := MX5.out _ hSw; clear hSw; go_simp; try with_reducible rfl
      try simp only [List.getElem_toArray]
      try simp only [List.getElem_cons_succ]
      try simp only [List.getElem_cons_zero]
      try simp only [Act.put]
      try simp only [List.setIfInBounds_toArray]
      try simp only [List.set]
      refine wpAnyH_take (i := 13) (v := ?v69) rfl (by kernel_rfl) (by kernel_rfl) (by kernel_rfl) (fun _ _ _ h => h) (Or.inl ⟨by kernel_rfl, ?h69⟩) hHeld ?_
      case h69 => intro u hSw; have hg := MG.out _ hSw; have q0 := GR0.out _ hg; have q1 := GR1.out _ hg; have q2 := GR2.out _ hg; have q3 := GR3.out _ hg; clear hg hSw; go_simp; try with_reducible rfl
      try simp only [List.getElem_toArray]
      try simp only [List.getElem_cons_succ]
      try simp only [List.getElem_cons_zero]
      try simp only [Act.put]
      try simp only [List.setIfInBounds_toArray]
      try simp only [List.set]
      refine wpAnyH_ready (rs := [12, 14]) (by kernel_rfl) (by simp) ?_
      refine AllReadyH.cons rfl (fun K hK => ?_) (AllReadyH.cons rfl (fun K hK => ?_) AllReadyH.nil)
      ·
        go_simp
        go_wp2_with fail
        refine hK.out _ _ (HMU.out _ _ (by go_grown) hHeld) (fun hHeld => ?_)
        clear hK K
        generalize hW : World.alloc V _ = V1 at hHeld ⊢
        have gW : Below V.heap.size V V1 := by rw [← hW]; go_grown
        have h12 : RecsRead V1 (some ⟨V.heap.size, 0, none⟩) 1 (fun _ => ⟨y1, y2, y3, yn, YP, YZ⟩) (fun _ => ⟨ya, yc, YA, YC, fun _ => 0, 0, 0⟩) := recs_one (by rw [← hW]; simp [go_sem]) (by rw [← hW]; simp [go_sem]) (by rw [← hW]; simp [go_sem]) (by rw [← hW]; simp [go_sem]) (MXn.out _ hHeld)
        generalize V.heap.size = g1 at h12 ⊢
        clear hW gW
        try simp only [Act.put]
        try simp only [List.setIfInBounds_toArray]
        try simp only [List.set]
        refine wpAnyH_ready (rs := [14]) (by kernel_rfl) (by simp) ?_
        refine AllReadyH.cons rfl (fun K hK => ?_) AllReadyH.nil
        go_simp
        go_wp2_with fail
        refine hK.out _ _ (HMU.out _ _ (by go_grown) hHeld) (fun hHeld => ?_)
        clear hK K
        generalize hW : World.alloc V1 _ = V2 at hHeld ⊢
        have gW : Below V1.heap.size V1 V2 := by rw [← hW]; go_grown
        have h14 : RecsRead V2 (some ⟨V1.heap.size, 0, none⟩) 1 (fun _ => ⟨k, tx, pg, l, P, Z⟩) (fun _ => ⟨ra, rc, A, C, fun _ => 0, 0, 0⟩) := recs_one (by rw [← hW]; simp [go_sem]) (by rw [← hW]; simp [go_sem]) (by rw [← hW]; simp [go_sem]) (by rw [← hW]; simp [go_sem]) (GRn.out _ (MG.out _ hHeld))
        have h12 := h12.below gW (Nat.le_refl _)
        generalize V1.heap.size = g2 at h14 ⊢
        clear hW gW
        try simp only [Act.put]
        try simp only [List.setIfInBounds_toArray]
        try simp only [List.set]
        refine wpAnyH_ready (rs := [15]) (by kernel_rfl) (by simp) ?_
        refine AllReadyH.cons rfl (fun K hK => ?_) AllReadyH.nil
        go_simp
        go_wp2_with (go_at_call 14; refine (HSR.out _ _ _ _ _ h12 h14).mono ?_; rintro e w8 ⟨rfl, hb⟩)
        refine hK.out _ _ (HMU.out _ _ hb hHeld) (fun hHeld => ?_)
        clear hK K
        clear hb h12 h14
        try simp only [Act.put]
        try simp only [List.setIfInBounds_toArray]
        try simp only [List.set]
        refine wpAnyH_take (i := 16) (v := ?v70) rfl (by kernel_rfl) (by kernel_rfl) (by kernel_rfl) (fun _ _ _ h => h) (Or.inl ⟨by kernel_rfl, ?h70⟩) hHeld ?_
        case h70 => intro u hSw; (try dsimp only at hSw); go_simp; try with_reducible rfl
        try simp only [List.getElem_toArray]
        try simp only [List.getElem_cons_succ]
        try simp only [List.getElem_cons_zero]
        try simp only [Act.put]
        try simp only [List.setIfInBounds_toArray]
        try simp only [List.set]
        refine wpAnyH_take (i := 17) (v := ?v71) rfl (by kernel_rfl) (by kernel_rfl) (by kernel_rfl) (fun _ _ _ h => h) (Or.inl ⟨by kernel_rfl, ?h71⟩) hHeld ?_
        case h71 => intro u hSw; (try dsimp only at hSw); go_simp; try with_reducible rfl
        try simp only [List.getElem_toArray]
        try simp only [List.getElem_cons_succ]
        try simp only [List.getElem_cons_zero]
        try simp only [Act.put]
        try simp only [List.setIfInBounds_toArray]
        try simp only [List.set]
        refine wpAnyH_take (i := 18) (v := ?v72) rfl (by kernel_rfl) (by kernel_rfl) (by kernel_rfl) (fun _ _ _ h => h) (Or.inl ⟨by kernel_rfl, ?h72⟩) hHeld ?_
        case h72 => intro u hSw; (try dsimp only at hSw); go_simp; try with_reducible rfl
        try simp only [List.getElem_toArray]
        try simp only [List.getElem_cons_succ]
        try simp only [List.getElem_cons_zero]
        try simp only [Act.put]
        try simp only [List.setIfInBounds_toArray]
        try simp only [List.set]
        refine wpAnyH_take (i := 19) (v := ?v73) rfl (by kernel_rfl) (by kernel_rfl) (by kernel_rfl) (fun _ _ _ h => h) (Or.inl ⟨by kernel_rfl, ?h73⟩) hHeld ?_
        case h73 => intro u hSw; (try dsimp only at hSw); go_simp; try with_reducible rfl
        try simp only [List.getElem_toArray]
        try simp only [List.getElem_cons_succ]
        try simp only [List.getElem_cons_zero]
        try simp only [Act.put]
        try simp only [List.setIfInBounds_toArray]
        try simp only [List.set]
        refine wpAnyH_take (i := 20) (v := ?v74) rfl (by kernel_rfl) (by kernel_rfl) (by kernel_rfl) (fun _ _ _ h => h) (Or.inl ⟨by kernel_rfl, ?h74⟩) hHeld ?_
        case h74 => intro u hSw; (try dsimp only at hSw); go_simp; try with_reducible rfl
        try simp only [List.getElem_toArray]
        try simp only [List.getElem_cons_succ]
        try simp only [List.getElem_cons_zero]
        try simp only [Act.put]
        try simp only [List.setIfInBounds_toArray]
        try simp only [List.set]
        refine wpAnyH_take (i := 21) (v := ?v75) rfl (by kernel_rfl) (by kernel_rfl) (by kernel_rfl) (fun _ _ _ h => h) (Or.inl ⟨by kernel_rfl, ?h75⟩) hHeld ?_
        case h75 => intro u hSw; (try dsimp only at hSw); go_simp; try with_reducible rfl
        try simp only [List.getElem_toArray]
        try simp only [List.getElem_cons_succ]
        try simp only [List.getElem_cons_zero]
        try simp only [Act.put]
        try simp only [List.setIfInBounds_toArray]
        try simp only [List.set]
        refine wpAnyH_take (i := 22) (v := ?v76) rfl (by kernel_rfl) (by kernel_rfl) (by kernel_rfl) (fun _ _ _ h => h) (Or.inl ⟨by kernel_rfl, ?h76⟩) hHeld ?_
        case h76 => intro u hSw; (try dsimp only at hSw); go_simp; try with_reducible rfl
        try simp only [List.getElem_toArray]
        try simp only [List.getElem_cons_succ]
        try simp only [List.getElem_cons_zero]
        try simp only [Act.put]
        try simp only [List.setIfInBounds_toArray]
        try simp only [List.set]
        refine wpAnyH_take (i := 23) (v := ?v77) rfl (by kernel_rfl) (by kernel_rfl) (by kernel_rfl) (fun _ _ _ h => h) (Or.inl ⟨by kernel_rfl, ?h77⟩) hHeld ?_
        case h77 => intro u hSw; (try dsimp only at hSw); go_simp; try with_reducible rfl
        try simp only [List.getElem_toArray]
        try simp only [List.getElem_cons_succ]
        try simp only [List.getElem_cons_zero]
        try simp only [Act.put]
        try simp only [List.setIfInBounds_toArray]
        try simp only [List.set]
        refine wpAnyH_take (i := 24) (v := ?v78) rfl (by kernel_rfl) (by kernel_rfl) (by kernel_rfl) (fun _ _ _ h => h) (Or.inl ⟨by kernel_rfl, ?h78⟩) hHeld ?_
        case h78 => intro u hSw; (try dsimp only at hSw); go_simp; try with_reducible rfl
        try simp only [List.getElem_toArray]
        try simp only [List.getElem_cons_succ]
        try simp only [List.getElem_cons_zero]
        try simp only [Act.put]
        try simp only [List.setIfInBounds_toArray]
        try simp only [List.set]
        refine wpAnyH_take (i := 25) (v := ?v79) rfl (by kernel_rfl) (by kernel_rfl) (by kernel_rfl) (fun _ _ _ h => h) (Or.inl ⟨by kernel_rfl, ?h79⟩) hHeld ?_
        case h79 => intro u hSw; (try dsimp only at hSw); go_simp; try with_reducible rfl
        try simp only [List.getElem_toArray]
        try simp only [List.getElem_cons_succ]
        try simp only [List.getElem_cons_zero]
        try simp only [Act.put]
        try simp only [List.setIfInBounds_toArray]
        try simp only [List.set]
        refine wpAnyH_take (i := 26) (v := ?v80) rfl (by kernel_rfl) (by kernel_rfl) (by kernel_rfl) (fun _ _ _ h => h) (Or.inl ⟨by kernel_rfl, ?h80⟩) hHeld ?_
        case h80 => intro u hSw; (try dsimp only at hSw); go_simp; try with_reducible rfl
        try simp only [List.getElem_toArray]
        try simp only [List.getElem_cons_succ]
        try simp only [List.getElem_cons_zero]
        try simp only [Act.put]
        try simp only [List.setIfInBounds_toArray]
        try simp only [List.set]
        refine wpAnyH_take (i := 27) (v := ?v81) rfl (by kernel_rfl) (by kernel_rfl) (by kernel_rfl) (fun _ _ _ h => h) (Or.inl ⟨by kernel_rfl, ?h81⟩) hHeld ?_
        case h81 => intro u hSw; have q0 := GB1.out _ (MG.out _ hSw); clear hSw; go_simp; try with_reducible rfl
        try simp only [List.getElem_toArray]
        try simp only [List.getElem_cons_succ]
        try simp only [List.getElem_cons_zero]
        try simp only [Act.put]
        try simp only [List.setIfInBounds_toArray]
        try simp only [List.set]
        refine wpAnyH_take (i := 28) (v := ?v82) rfl (by kernel_rfl) (by kernel_rfl) (by kernel_rfl) (fun _ _ _ h => h) (Or.inl ⟨by kernel_rfl, ?h82⟩) hHeld ?_
        case h82 => intro u hSw; (try dsimp only at hSw); go_simp; try with_reducible rfl
        try simp only [List.getElem_toArray]
        try simp only [List.getElem_cons_succ]
        try simp only [List.getElem_cons_zero]
        try simp only [Act.put]
        try simp only [List.setIfInBounds_toArray]
        try simp only [List.set]
        refine wpAnyH_take (i := 29) (v := ?v83) rfl (by kernel_rfl) (by kernel_rfl) (by kernel_rfl) (fun _ _ _ h => h) (Or.inl ⟨by kernel_rfl, ?h83⟩) hHeld ?_
        case h83 => intro u hSw; (try dsimp only at hSw); go_simp; try with_reducible rfl
        try simp only [List.getElem_toArray]
        try simp only [List.getElem_cons_succ]
        try simp only [List.getElem_cons_zero]
        try simp only [Act.put]
        try simp only [List.setIfInBounds_toArray]
        try simp only [List.set]
        refine wpAnyH_take (i := 30) (v := ?v84) rfl (by kernel_rfl) (by kernel_rfl) (by kernel_rfl) (fun _ _ _ h => h) (Or.inl ⟨by kernel_rfl, ?h84⟩) hHeld ?_
        case h84 => intro u hSw; (try dsimp only at hSw); go_simp; try with_reducible rfl
        try simp only [List.getElem_toArray]
        try simp only [List.getElem_cons_succ]
        try simp only [List.getElem_cons_zero]
        try simp only [Act.put]
        try simp only [List.setIfInBounds_toArray]
        try simp only [List.set]
        refine wpAnyH_ready (rs := [31]) (by kernel_rfl) (by simp) ?_
        refine AllReadyH.cons rfl (fun K hK => ?_) AllReadyH.nil
        go_simp
        go_wp2_with (go_at_call 7; refine (HCut.out _ (GBy.out _ (MG.out _ hHeld))).mono ?_; rintro e w8 ⟨z0, z1, z2, z3, zp, zn, zc, rfl, hb⟩)
        refine hK.out _ _ (HMU.out _ _ hb hHeld) (fun hHeld => ?_)
        clear hK K
        clear hb
        try simp only [Act.put]
        try simp only [List.setIfInBounds_toArray]
        try simp only [List.set]
        refine wpAnyH_take (i := 32) (v := ?v85) rfl (by kernel_rfl) (by kernel_rfl) (by kernel_rfl) (fun _ _ _ h => h) (Or.inl ⟨by kernel_rfl, ?h85⟩) hHeld ?_
        case h85 => intro u hSw; (try dsimp only at hSw); go_simp; try with_reducible rfl
        try simp only [List.getElem_toArray]
        try simp only [List.getElem_cons_succ]
        try simp only [List.getElem_cons_zero]
        try simp only [Act.put]
        try simp only [List.setIfInBounds_toArray]
        try simp only [List.set]
        refine wpAnyH_take (i := 33) (v := ?v86) rfl (by kernel_rfl) (by kernel_rfl) (by kernel_rfl) (fun _ _ _ h => h) (Or.inl ⟨by kernel_rfl, ?h86⟩) hHeld ?_
        case h86 => intro u hSw; (try dsimp only at hSw); go_simp; try with_reducible rfl
        try simp only [List.getElem_toArray]
        try simp only [List.getElem_cons_succ]
        try simp only [List.getElem_cons_zero]
        try simp only [Act.put]
        try simp only [List.setIfInBounds_toArray]
        try simp only [List.set]
        refine wpAnyH_take (i := 34) (v := ?v87) rfl (by kernel_rfl) (by kernel_rfl) (by kernel_rfl) (fun _ _ _ h => h) (Or.inl ⟨by kernel_rfl, ?h87⟩) hHeld ?_
        case h87 => intro u hSw; (try dsimp only at hSw); go_simp; try with_reducible rfl
        try simp only [List.getElem_toArray]
        try simp only [List.getElem_cons_succ]
        try simp only [List.getElem_cons_zero]
        try simp only [Act.put]
        try simp only [List.setIfInBounds_toArray]
        try simp only [List.set]
        refine wpAnyH_take (i := 35) (v := ?v88) rfl (by kernel_rfl) (by kernel_rfl) (by kernel_rfl) (fun _ _ _ h => h) (Or.inl ⟨by kernel_rfl, ?h88⟩) hHeld ?_
        case h88 => intro u hSw; (try dsimp only at hSw); go_simp; try with_reducible rfl
        try simp only [List.getElem_toArray]
        try simp only [List.getElem_cons_succ]
        try simp only [List.getElem_cons_zero]
        try simp only [Act.put]
        try simp only [List.setIfInBounds_toArray]
        try simp only [List.set]
        refine wpAnyH_take (i := 36) (v := ?v89) rfl (by kernel_rfl) (by kernel_rfl) (by kernel_rfl) (fun _ _ _ h => h) (Or.inl ⟨by kernel_rfl, ?h89⟩) hHeld ?_
        case h89 => intro u hSw; have hg := MG.out _ hSw; have q0 := GR0.out _ hg; have q1 := GR1.out _ hg; have q2 := GR2.out _ hg; have q3 := GR3.out _ hg; clear hg hSw; go_simp; try with_reducible rfl
        try simp only [List.getElem_toArray]
        try simp only [List.getElem_cons_succ]
        try simp only [List.getElem_cons_zero]
        try simp only [Act.put]
        try simp only [List.setIfInBounds_toArray]
        try simp only [List.set]
        refine wpAnyH_ready (rs := [37]) (by kernel_rfl) (by simp) ?_
        refine AllReadyH.cons rfl (fun K hK => ?_) AllReadyH.nil
        go_simp
        go_wp2_with (go_at_call 15; refine (HTI.out _ (GRn.out _ (MG.out _ hHeld)) (GT.out _ (MG.out _ hHeld))).mono ?_; rintro e w9 ⟨rfl, hb⟩)
        refine hK.out _ _ (HMU.out _ _ hb hHeld) (fun hHeld => ?_)
        clear hK K
        clear hb
        try simp only [Act.put]
        try simp only [List.setIfInBounds_toArray]
        try simp only [List.set]
        refine wpAnyH_take (i := 38) (v := ?v90) rfl (by kernel_rfl) (by kernel_rfl) (by kernel_rfl) (fun _ _ _ h => h) (Or.inl ⟨by kernel_rfl, ?h90⟩) hHeld ?_
        case h90 => intro u hSw; (try dsimp only at hSw); go_simp; try with_reducible rfl
        try simp only [List.getElem_toArray]
        try simp only [List.getElem_cons_succ]
        try simp only [List.getElem_cons_zero]
        try simp only [Act.put]
        try simp only [List.setIfInBounds_toArray]
        try simp only [List.set]
        refine wpAnyH_take (i := 39) (v := ?v91) rfl (by kernel_rfl) (by kernel_rfl) (by kernel_rfl) (fun _ _ _ h => h) (Or.inl ⟨by kernel_rfl, ?h91⟩) hHeld ?_
        case h91 => intro u hSw; (try dsimp only at hSw); go_simp; try with_reducible rfl
        try simp only [List.getElem_toArray]
        try simp only [List.getElem_cons_succ]
        try simp only [List.getElem_cons_zero]
        try simp only [Act.put]
        try simp only [List.setIfInBounds_toArray]
        try simp only [List.set]
        refine wpAnyH_take (i := 40) (v := ?v92) rfl (by kernel_rfl) (by kernel_rfl) (by kernel_rfl) (fun _ _ _ h => h) (Or.inl ⟨by kernel_rfl, ?h92⟩) hHeld ?_
        case h92 => intro u hSw; (try dsimp only at hSw); go_simp; try with_reducible rfl
        try simp only [List.getElem_toArray]
        try simp only [List.getElem_cons_succ]
        try simp only [List.getElem_cons_zero]
        try simp only [Act.put]
        try simp only [List.setIfInBounds_toArray]
        try simp only [List.set]
        refine wpAnyH_take (i := 41) (v := ?v93) rfl (by kernel_rfl) (by kernel_rfl) (by kernel_rfl) (fun _ _ _ h => h) (Or.inl ⟨by kernel_rfl, ?h93⟩) hHeld ?_
        case h93 => intro u hSw; (try dsimp only at hSw); go_simp; try with_reducible rfl
        try simp only [List.getElem_toArray]
        try simp only [List.getElem_cons_succ]
        try simp only [List.getElem_cons_zero]
        try simp only [Act.put]
        try simp only [List.setIfInBounds_toArray]
        try simp only [List.set]
        refine wpAnyH_take (i := 42) (v := ?v94) rfl (by kernel_rfl) (by kernel_rfl) (by kernel_rfl) (fun _ _ _ h => h) (Or.inl ⟨by kernel_rfl, ?h94⟩) hHeld ?_
        case h94 => intro u hSw; have hg := MG.out _ hSw; have q0 := GR0.out _ hg; have q1 := GR1.out _ hg; have q2 := GR2.out _ hg; have q3 := GR3.out _ hg; clear hg hSw; go_simp; try with_reducible rfl
        try simp only [List.getElem_toArray]
        try simp only [List.getElem_cons_succ]
        try simp only [List.getElem_cons_zero]
        try simp only [Act.put]
        try simp only [List.setIfInBounds_toArray]
        try simp only [List.set]
        refine wpAnyH_take (i := 45) (v := ?v95) rfl (by kernel_rfl) (by kernel_rfl) (by kernel_rfl) (fun _ _ _ h => h) (Or.inl ⟨by kernel_rfl, ?h95⟩) hHeld ?_
        case h95 => intro u hSw; have hg := MG.out _ hSw; have q0 := GR0.out _ hg; have q1 := GR1.out _ hg; have q2 := GR2.out _ hg; have q3 := GR3.out _ hg; clear hg hSw; go_simp; try with_reducible rfl
        try simp only [List.getElem_toArray]
        try simp only [List.getElem_cons_succ]
        try simp only [List.getElem_cons_zero]
        try simp only [Act.put]
        try simp only [List.setIfInBounds_toArray]
        try simp only [List.set]
        refine wpAnyH_ready (rs := [43]) (by kernel_rfl) (by simp) ?_
        refine AllReadyH.cons rfl (fun K hK => ?_) AllReadyH.nil
        go_simp
        go_wp2_with (go_at_call 15; refine (HTI.out _ (GRn.out _ (MG.out _ hHeld)) (GT.out _ (MG.out _ hHeld))).mono ?_; rintro e w9 ⟨rfl, hb⟩)
        refine hK.out _ _ (HMU.out _ _ hb hHeld) (fun hHeld => ?_)
        clear hK K hb
        try simp only [Act.put]
        try simp only [List.setIfInBounds_toArray]
        try simp only [List.set]
        refine wpAnyH_take (i := 44) (v := ?v96) rfl (by kernel_rfl) (by kernel_rfl) (by kernel_rfl) (fun _ _ _ h => h) (Or.inl ⟨by kernel_rfl, ?h96⟩) hHeld ?_
        case h96 => intro u hSw; (try dsimp only at hSw); go_simp; try with_reducible rfl
        try simp only [List.getElem_toArray]
        try simp only [List.getElem_cons_succ]
        try simp only [List.getElem_cons_zero]
        try simp only [Act.put]
        try simp only [List.setIfInBounds_toArray]
        try simp only [List.set]
        refine wpAnyH_ready (rs := [46]) (by kernel_rfl) (by simp) ?_
        refine AllReadyH.cons rfl (fun K hK => ?_) AllReadyH.nil
        go_simp
        go_wp2_with (go_at_call 16; refine (HTS.out _ (GRn.out _ (MG.out _ hHeld))).mono ?_; rintro e w10 ⟨rfl, hb⟩)
        refine hK.out _ _ (HMU.out _ _ hb hHeld) (fun hHeld => ?_)
        clear hK K hb
        try simp only [Act.put]
        try simp only [List.setIfInBounds_toArray]
        try simp only [List.set]
        refine wpAnyH_take (i := 47) (v := ?v97) rfl (by kernel_rfl) (by kernel_rfl) (by kernel_rfl) (fun _ _ _ h => h) (Or.inl ⟨by kernel_rfl, ?h97⟩) hHeld ?_
        case h97 => intro u hSw; (try dsimp only at hSw); go_simp; try with_reducible rfl
        try simp only [List.getElem_toArray]
        try simp only [List.getElem_cons_succ]
        try simp only [List.getElem_cons_zero]
        try simp only [Act.put]
        try simp only [List.setIfInBounds_toArray]
        try simp only [List.set]
        refine wpAnyH_take (i := 48) (v := ?v98) rfl (by kernel_rfl) (by kernel_rfl) (by kernel_rfl) (fun _ _ _ h => h) (Or.inl ⟨by kernel_rfl, ?h98⟩) hHeld ?_
        case h98 => intro u hSw; (try dsimp only at hSw); go_simp; try with_reducible rfl
        try simp only [List.getElem_toArray]
        try simp only [List.getElem_cons_succ]
        try simp only [List.getElem_cons_zero]
        try simp only [Act.put]
        try simp only [List.setIfInBounds_toArray]
        try simp only [List.set]
        refine wpAnyH_take (i := 49) (v := ?v99) rfl (by kernel_rfl) (by kernel_rfl) (by kernel_rfl) (fun _ _ _ h => h) (Or.inl ⟨by kernel_rfl, ?h99⟩) hHeld ?_
        case h99 => intro u hSw; (try dsimp only at hSw); go_simp; try with_reducible rfl
        try simp only [List.getElem_toArray]
        try simp only [List.getElem_cons_succ]
        try simp only [List.getElem_cons_zero]
        try simp only [Act.put]
        try simp only [List.setIfInBounds_toArray]
        try simp only [List.set]
        refine wpAnyH_take (i := 50) (v := ?v100) rfl (by kernel_rfl) (by kernel_rfl) (by kernel_rfl) (fun _ _ _ h => h) (Or.inl ⟨by kernel_rfl, ?h100⟩) hHeld ?_
        case h100 => intro u hSw; (try dsimp only at hSw); go_simp; try with_reducible rfl
        try simp only [List.getElem_toArray]
        try simp only [List.getElem_cons_succ]
        try simp only [List.getElem_cons_zero]
        try simp only [Act.put]
        try simp only [List.setIfInBounds_toArray]
        try simp only [List.set]
        refine wpAnyH_done (by kernel_rfl) ?_ _
        go_wp2_with fail
        go_ret
        exact ⟨by simp, GT.out _ (MG.out _ hHeld)⟩
      ·
        go_simp
        go_wp2_with fail
        refine hK.out _ _ (HMU.out _ _ (by go_grown) hHeld) (fun hHeld => ?_)
        clear hK K
        generalize hW : World.alloc V _ = V1 at hHeld ⊢
        have gW : Below V.heap.size V V1 := by rw [← hW]; go_grown
        have h14 : RecsRead V1 (some ⟨V.heap.size, 0, none⟩) 1 (fun _ => ⟨k, tx, pg, l, P, Z⟩) (fun _ => ⟨ra, rc, A, C, fun _ => 0, 0, 0⟩) := recs_one (by rw [← hW]; simp [go_sem]) (by rw [← hW]; simp [go_sem]) (by rw [← hW]; simp [go_sem]) (by rw [← hW]; simp [go_sem]) (GRn.out _ (MG.out _ hHeld))
        generalize V.heap.size = g2 at h14 ⊢
        clear hW gW
        try simp only [Act.put]
        try simp only [List.setIfInBounds_toArray]
        try simp only [List.set]
        refine wpAnyH_ready (rs := [12]) (by kernel_rfl) (by simp) ?_
        refine AllReadyH.cons rfl (fun K hK => ?_) AllReadyH.nil
        go_simp
        go_wp2_with fail
        refine hK.out _ _ (HMU.out _ _ (by go_grown) hHeld) (fun hHeld => ?_)
        clear hK K
        generalize hW : World.alloc V1 _ = V2 at hHeld ⊢
        have gW : Below V1.heap.size V1 V2 := by rw [← hW]; go_grown
        have h12 : RecsRead V2 (some ⟨V1.heap.size, 0, none⟩) 1 (fun _ => ⟨y1, y2, y3, yn, YP, YZ⟩) (fun _ => ⟨ya, yc, YA, YC, fun _ => 0, 0, 0⟩) := recs_one (by rw [← hW]; simp [go_sem]) (by rw [← hW]; simp [go_sem]) (by rw [← hW]; simp [go_sem]) (by rw [← hW]; simp [go_sem]) (MXn.out _ hHeld)
        have h14 := h14.below gW (Nat.le_refl _)
        generalize V1.heap.size = g1 at h12 ⊢
        clear hW gW
        try simp only [Act.put]
        try simp only [List.setIfInBounds_toArray]
        try simp only [List.set]
        refine wpAnyH_ready (rs := [15]) (by kernel_rfl) (by simp) ?_
        refine AllReadyH.cons rfl (fun K hK => ?_) AllReadyH.nil
        go_simp
        go_wp2_with (go_at_call 14; refine (HSR.out _ _ _ _ _ h12 h14).mono ?_; rintro e w8 ⟨rfl, hb⟩)
        refine hK.out _ _ (HMU.out _ _ hb hHeld) (fun hHeld => ?_)
        clear hK K
        clear hb h12 h14
        try simp only [Act.put]
        try simp only [List.setIfInBounds_toArray]
        try simp only [List.set]
        refine wpAnyH_take (i := 16) (v := ?v101) rfl (by kernel_rfl) (by kernel_rfl) (by kernel_rfl) (fun _ _ _ h => h) (Or.inl ⟨by kernel_rfl, ?h101⟩) hHeld ?_
        case h101 => intro u hSw; (try dsimp only at hSw); go_simp; try with_reducible rfl
        try simp only [List.getElem_toArray]
        try simp only [List.getElem_cons_succ]
        try simp only [List.getElem_cons_zero]
        try simp only [Act.put]
        try simp only [List.setIfInBounds_toArray]
        try simp only [List.set]
        refine wpAnyH_take (i := 17) (v := ?v102) rfl (by kernel_rfl) (by kernel_rfl) (by kernel_rfl) (fun _ _ _ h => h) (Or.inl ⟨by kernel_rfl, ?h102⟩) hHeld ?_
        case h102 => intro u hSw; (try dsimp only at hSw); go_simp; try with_reducible rfl
        try simp only [List.getElem_toArray]
        try simp only [List.getElem_cons_succ]
        try simp only [List.getElem_cons_zero]
        try simp only [Act.put]
        try simp only [List.setIfInBounds_toArray]
        try simp only [List.set]
        refine wpAnyH_take (i := 18) (v := ?v103) rfl (by kernel_rfl) (by kernel_rfl) (by kernel_rfl) (fun _ _ _ h => h) (Or.inl ⟨by kernel_rfl, ?h103⟩) hHeld ?_
        case h103 => intro u hSw; (try dsimp only at hSw); go_simp; try with_reducible rfl
        try simp only [List.getElem_toArray]
        try simp only [List.getElem_cons_succ]
        try simp only [List.getElem_cons_zero]
        try simp only [Act.put]
        try simp only [List.setIfInBounds_toArray]
        try simp only [List.set]
        refine wpAnyH_take (i := 19) (v := ?v104) rfl (by kernel_rfl) (by kernel_rfl) (by kernel_rfl) (fun _ _ _ h => h) (Or.inl ⟨by kernel_rfl, ?h104⟩) hHeld ?_
        case h104 => intro u hSw; (try dsimp only at hSw); go_simp; try with_reducible rfl
        try simp only [List.getElem_toArray]
        try simp only [List.getElem_cons_succ]
        try simp only [List.getElem_cons_zero]
        try simp only [Act.put]
        try simp only [List.setIfInBounds_toArray]
        try simp only [List.set]
        refine wpAnyH_take (i := 20) (v := ?v105) rfl (by kernel_rfl) (by kernel_rfl) (by kernel_rfl) (fun _ _ _ h => h) (Or.inl ⟨by kernel_rfl, ?h105⟩) hHeld ?_
        case h105 => intro u hSw; (try dsimp only at hSw); go_simp; try with_reducible rfl
        try simp only [List.getElem_toArray]
        try simp only [List.getElem_cons_succ]
        try simp only [List.getElem_cons_zero]
        try simp only [Act.put]
        try simp only [List.setIfInBounds_toArray]
        try simp only [List.set]
        refine wpAnyH_take (i := 21) (v := ?v106) rfl (by kernel_rfl) (by kernel_rfl) (by kernel_rfl) (fun _ _ _ h => h) (Or.inl ⟨by kernel_rfl, ?h106⟩) hHeld ?_
        case h106 => intro u hSw; (try dsimp only at hSw); go_simp; try with_reducible rfl
        try simp only [List.getElem_toArray]
        try simp only [List.getElem_cons_succ]
        try simp only [List.getElem_cons_zero]
        try simp only [Act.put]
        try simp only [List.setIfInBounds_toArray]
        try simp only [List.set]
        refine wpAnyH_take (i := 22) (v := ?v107) rfl (by kernel_rfl) (by kernel_rfl) (by kernel_rfl) (fun _ _ _ h => h) (Or.inl ⟨by kernel_rfl, ?h107⟩) hHeld ?_
        case h107 => intro u hSw; (try dsimp only at hSw); go_simp; try with_reducible rfl
        try simp only [List.getElem_toArray]
        try simp only [List.getElem_cons_succ]
        try simp only [List.getElem_cons_zero]
        try simp only [Act.put]
        try simp only [List.setIfInBounds_toArray]
        try simp only [List.set]
        refine wpAnyH_take (i := 23) (v := ?v108) rfl (by kernel_rfl) (by kernel_rfl) (by kernel_rfl) (fun _ _ _ h => h) (Or.inl ⟨by kernel_rfl, ?h108⟩) hHeld ?_
        case h108 => intro u hSw; (try dsimp only at hSw); go_simp; try with_reducible rfl
        try simp only [List.getElem_toArray]
        try simp only [List.getElem_cons_succ]
        try simp only [List.getElem_cons_zero]
        try simp only [Act.put]
        try simp only [List.setIfInBounds_toArray]
        try simp only [List.set]
        refine wpAnyH_take (i := 24) (v := ?v109) rfl (by kernel_rfl) (by kernel_rfl) (by kernel_rfl) (fun _ _ _ h => h) (Or.inl ⟨by kernel_rfl, ?h109⟩) hHeld ?_
        case h109 => intro u hSw; (try dsimp only at hSw); go_simp; try with_reducible rfl
        try simp only [List.getElem_toArray]
        try simp only [List.getElem_cons_succ]
        try simp only [List.getElem_cons_zero]
        try simp only [Act.put]
        try simp only [List.setIfInBounds_toArray]
        try simp only [List.set]
        refine wpAnyH_take (i := 25) (v := ?v110) rfl (by kernel_rfl) (by kernel_rfl) (by kernel_rfl) (fun _ _ _ h => h) (Or.inl ⟨by kernel_rfl, ?h110⟩) hHeld ?_
        case h110 => intro u hSw; (try dsimp only at hSw); go_simp; try with_reducible rfl
        try simp only [List.getElem_toArray]
        try simp only [List.getElem_cons_succ]
        try simp only [List.getElem_cons_zero]
        try simp only [Act.put]
        try simp only [List.setIfInBounds_toArray]
        try simp only [List.set]
        refine wpAnyH_take (i := 26) (v := ?v111) rfl (by kernel_rfl) (by kernel_rfl) (by kernel_rfl) (fun _ _ _ h => h) (Or.inl ⟨by kernel_rfl, ?h111⟩) hHeld ?_
        case h111 => intro u hSw; (try dsimp only at hSw); go_simp; try with_reducible rfl
        try simp only [List.getElem_toArray]
        try simp only [List.getElem_cons_succ]
        try simp only [List.getElem_cons_zero]
        try simp only [Act.put]
        try simp only [List.setIfInBounds_toArray]
        try simp only [List.set]
        refine wpAnyH_take (i := 27) (v := ?v112) rfl (by kernel_rfl) (by kernel_rfl) (by kernel_rfl) (fun _ _ _ h => h) (Or.inl ⟨by kernel_rfl, ?h112⟩) hHeld ?_
        case h112 => intro u hSw; have q0 := GB1.out _ (MG.out _ hSw); clear hSw; go_simp; try with_reducible rfl
        try simp only [List.getElem_toArray]
        try simp only [List.getElem_cons_succ]
        try simp only [List.getElem_cons_zero]
        try simp only [Act.put]
        try simp only [List.setIfInBounds_toArray]
        try simp only [List.set]
        refine wpAnyH_take (i := 28) (v := ?v113) rfl (by kernel_rfl) (by kernel_rfl) (by kernel_rfl) (fun _ _ _ h => h) (Or.inl ⟨by kernel_rfl, ?h113⟩) hHeld ?_
        case h113 => intro u hSw; (try dsimp only at hSw); go_simp; try with_reducible rfl
        try simp only [List.getElem_toArray]
        try simp only [List.getElem_cons_succ]
        try simp only [List.getElem_cons_zero]
        try simp only [Act.put]
        try simp only [List.setIfInBounds_toArray]
        try simp only [List.set]
        refine wpAnyH_take (i := 29) (v := ?v114) rfl (by kernel_rfl) (by kernel_rfl) (by kernel_rfl) (fun _ _ _ h => h) (Or.inl ⟨by kernel_rfl, ?h114⟩) hHeld ?_
        case h114 => intro u hSw; (try dsimp only at hSw); go_simp; try with_reducible rfl
        try simp only [List.getElem_toArray]
        try simp only [List.getElem_cons_succ]
        try simp only [List.getElem_cons_zero]
        try simp only [Act.put]
        try simp only [List.setIfInBounds_toArray]
        try simp only [List.set]
        refine wpAnyH_take (i := 30) (v := ?v115) rfl (by kernel_rfl) (by kernel_rfl) (by kernel_rfl) (fun _ _ _ h => h) (Or.inl ⟨by kernel_rfl, ?h115⟩) hHeld ?_
        case h115 => intro u hSw; (try dsimp only at hSw); go_simp; try with_reducible rfl
        try simp only [List.getElem_toArray]
        try simp only [List.getElem_cons_succ]
        try simp only [List.getElem_cons_zero]
        try simp only [Act.put]
        try simp only [List.setIfInBounds_toArray]
        try simp only [List.set]
        refine wpAnyH_ready (rs := [31]) (by kernel_rfl) (by simp) ?_
        refine AllReadyH.cons rfl (fun K hK => ?_) AllReadyH.nil
        go_simp
        go_wp2_with (go_at_call 7; refine (HCut.out _ (GBy.out _ (MG.out _ hHeld))).mono ?_; rintro e w8 ⟨z0, z1, z2, z3, zp, zn, zc, rfl, hb⟩)
        refine hK.out _ _ (HMU.out _ _ hb hHeld) (fun hHeld => ?_)
        clear hK K
        clear hb
        try simp only [Act.put]
        try simp only [List.setIfInBounds_toArray]
        try simp only [List.set]
        refine wpAnyH_take (i := 32) (v := ?v116) rfl (by kernel_rfl) (by kernel_rfl) (by kernel_rfl) (fun _ _ _ h => h) (Or.inl ⟨by kernel_rfl, ?h116⟩) hHeld ?_
        case h116 => intro u hSw; (try dsimp only at hSw); go_simp; try with_reducible rfl
        try simp only [List.getElem_toArray]
        try simp only [List.getElem_cons_succ]
        try simp only [List.getElem_cons_zero]
        try simp only [Act.put]
        try simp only [List.setIfInBounds_toArray]
        try simp only [List.set]
        refine wpAnyH_take (i := 33) (v := ?v117) rfl (by kernel_rfl) (by kernel_rfl) (by kernel_rfl) (fun _ _ _ h => h) (Or.inl ⟨by kernel_rfl, ?h117⟩) hHeld ?_
        case h117 => intro u hSw; (try dsimp only at hSw); go_simp; try with_reducible rfl
        try simp only [List.getElem_toArray]
        try simp only [List.getElem_cons_succ]
        try simp only [List.getElem_cons_zero]
        try simp only [Act.put]
        try simp only [List.setIfInBounds_toArray]
        try simp only [List.set]
        refine wpAnyH_take (i := 34) (v := ?v118) rfl (by kernel_rfl) (by kernel_rfl) (by kernel_rfl) (fun _ _ _ h => h) (Or.inl ⟨by kernel_rfl, ?h118⟩) hHeld ?_
        case h118 => intro u hSw; (try dsimp only at hSw); go_simp; try with_reducible rfl
        try simp only [List.getElem_toArray]
        try simp only [List.getElem_cons_succ]
        try simp only [List.getElem_cons_zero]
        try simp only [Act.put]
        try simp only [List.setIfInBounds_toArray]
        try simp only [List.set]
        refine wpAnyH_take (i := 35) (v := ?v119) rfl (by kernel_rfl) (by kernel_rfl) (by kernel_rfl) (fun _ _ _ h => h) (Or.inl ⟨by kernel_rfl, ?h119⟩) hHeld ?_
        case h119 => intro u hSw; (try dsimp only at hSw); go_simp; try with_reducible rfl
        try simp only [List.getElem_toArray]
        try simp only [List.getElem_cons_succ]
        try simp only [List.getElem_cons_zero]
        try simp only [Act.put]
        try simp only [List.setIfInBounds_toArray]
        try simp only [List.set]
        refine wpAnyH_take (i := 36) (v := ?v120) rfl (by kernel_rfl) (by kernel_rfl) (by kernel_rfl) (fun _ _ _ h => h) (Or.inl ⟨by kernel_rfl, ?h120⟩) hHeld ?_
        case h120 => intro u hSw; have hg := MG.out _ hSw; have q0 := GR0.out _ hg; have q1 := GR1.out _ hg; have q2 := GR2.out _ hg; have q3 := GR3.out _ hg; clear hg hSw; go_simp; try with_reducible rfl
        try simp only [List.getElem_toArray]
        try simp only [List.getElem_cons_succ]
        try simp only [List.getElem_cons_zero]
        try simp only [Act.put]
        try simp only [List.setIfInBounds_toArray]
        try simp only [List.set]
        refine wpAnyH_ready (rs := [37]) (by kernel_rfl) (by simp) ?_
        refine AllReadyH.cons rfl (fun K hK => ?_) AllReadyH.nil
        go_simp
        go_wp2_with (go_at_call 15; refine (HTI.out _ (GRn.out _ (MG.out _ hHeld)) (GT.out _ (MG.out _ hHeld))).mono ?_; rintro e w9 ⟨rfl, hb⟩)
        refine hK.out _ _ (HMU.out _ _ hb hHeld) (fun hHeld => ?_)
        clear hK K
        clear hb
        try simp only [Act.put]
        try simp only [List.setIfInBounds_toArray]
        try simp only [List.set]
        refine wpAnyH_take (i := 38) (v := ?v121) rfl (by kernel_rfl) (by kernel_rfl) (by kernel_rfl) (fun _ _ _ h => h) (Or.inl ⟨by kernel_rfl, ?h121⟩) hHeld ?_
        case h121 => intro u hSw; (try dsimp only at hSw); go_simp; try with_reducible rfl
        try simp only [List.getElem_toArray]
        try simp only [List.getElem_cons_succ]
        try simp only [List.getElem_cons_zero]
        try simp only [Act.put]
        try simp only [List.setIfInBounds_toArray]
        try simp only [List.set]
        refine wpAnyH_take (i := 39) (v := ?v122) rfl (by kernel_rfl) (by kernel_rfl) (by kernel_rfl) (fun _ _ _ h => h) (Or.inl ⟨by kernel_rfl, ?h122⟩) hHeld ?_
        case h122 => intro u hSw; (try dsimp only at hSw); go_simp; try with_reducible rfl
        try simp only [List.getElem_toArray]
        try simp only [List.getElem_cons_succ]
        try simp only [List.getElem_cons_zero]
        try simp only [Act.put]
        try simp only [List.setIfInBounds_toArray]
        try simp only [List.set]
        refine wpAnyH_take (i := 40) (v := ?v123) rfl (by kernel_rfl) (by kernel_rfl) (by kernel_rfl) (fun _ _ _ h => h) (Or.inl ⟨by kernel_rfl, ?h123⟩) hHeld ?_
        case h123 => intro u hSw; (try dsimp only at hSw); go_simp; try with_reducible rfl
        try simp only [List.getElem_toArray]
        try simp only [List.getElem_cons_succ]
        try simp only [List.getElem_cons_zero]
        try simp only [Act.put]
        try simp only [List.setIfInBounds_toArray]
        try simp only [List.set]
        refine wpAnyH_take (i := 41) (v := ?v124) rfl (by kernel_rfl) (by kernel_rfl) (by kernel_rfl) (fun _ _ _ h => h) (Or.inl ⟨by kernel_rfl, ?h124⟩) hHeld ?_
        case h124 => intro u hSw; (try dsimp only at hSw); go_simp; try with_reducible rfl
        try simp only [List.getElem_toArray]
        try simp only [List.getElem_cons_succ]
        try simp only [List.getElem_cons_zero]
        try simp only [Act.put]
        try simp only [List.setIfInBounds_toArray]
        try simp only [List.set]
        refine wpAnyH_take (i := 42) (v := ?v125) rfl (by kernel_rfl) (by kernel_rfl) (by kernel_rfl) (fun _ _ _ h => h) (Or.inl ⟨by kernel_rfl, ?h125⟩) hHeld ?_
        case h125 => intro u hSw; have hg := MG.out _ hSw; have q0 := GR0.out _ hg; have q1 := GR1.out _ hg; have q2 := GR2.out _ hg; have q3 := GR3.out _ hg; clear hg hSw; go_simp; try with_reducible rfl
        try simp only [List.getElem_toArray]
        try simp only [List.getElem_cons_succ]
        try simp only [List.getElem_cons_zero]
        try simp only [Act.put]
        try simp only [List.setIfInBounds_toArray]
        try simp only [List.set]
        refine wpAnyH_take (i := 45) (v := ?v126) rfl (by kernel_rfl) (by kernel_rfl) (by kernel_rfl) (fun _ _ _ h => h) (Or.inl ⟨by kernel_rfl, ?h126⟩) hHeld ?_
        case h126 => intro u hSw; have hg := MG.out _ hSw; have q0 := GR0.out _ hg; have q1 := GR1.out _ hg; have q2 := GR2.out _ hg; have q3 := GR3.out _ hg; clear hg hSw; go_simp; try with_reducible rfl
        try simp only [List.getElem_toArray]
        try simp only [List.getElem_cons_succ]
        try simp only [List.getElem_cons_zero]
        try simp only [Act.put]
        try simp only [List.setIfInBounds_toArray]
        try simp only [List.set]
        refine wpAnyH_ready (rs := [43]) (by kernel_rfl) (by simp) ?_
        refine AllReadyH.cons rfl (fun K hK => ?_) AllReadyH.nil
        go_simp
        go_wp2_with (go_at_call 15; refine (HTI.out _ (GRn.out _ (MG.out _ hHeld)) (GT.out _ (MG.out _ hHeld))).mono ?_; rintro e w9 ⟨rfl, hb⟩)
        refine hK.out _ _ (HMU.out _ _ hb hHeld) (fun hHeld => ?_)
        clear hK K hb
        try simp only [Act.put]
        try simp only [List.setIfInBounds_toArray]
        try simp only [List.set]
        refine wpAnyH_take (i := 44) (v := ?v127) rfl (by kernel_rfl) (by kernel_rfl) (by kernel_rfl) (fun _ _ _ h => h) (Or.inl ⟨by kernel_rfl, ?h127⟩) hHeld ?_
        case h127 => intro u hSw; (try dsimp only at hSw); go_simp; try with_reducible rfl
        try simp only [List.getElem_toArray]
        try simp only [List.getElem_cons_succ]
        try simp only [List.getElem_cons_zero]
        try simp only [Act.put]
        try simp only [List.setIfInBounds_toArray]
        try simp only [List.set]
        refine wpAnyH_ready (rs := [46]) (by kernel_rfl) (by simp) ?_
        refine AllReadyH.cons rfl (fun K hK => ?_) AllReadyH.nil
        go_simp
        go_wp2_with (go_at_call 16; refine (HTS.out _ (GRn.out _ (MG.out _ hHeld))).mono ?_; rintro e w10 ⟨rfl, hb⟩)
        refine hK.out _ _ (HMU.out _ _ hb hHeld) (fun hHeld => ?_)
        clear hK K hb
        try simp only [Act.put]
        try simp only [List.setIfInBounds_toArray]
        try simp only [List.set]
        refine wpAnyH_take (i := 47) (v := ?v128) rfl (by kernel_rfl) (by kernel_rfl) (by kernel_rfl) (fun _ _ _ h => h) (Or.inl ⟨by kernel_rfl, ?h128⟩) hHeld ?_
        case h128 => intro u hSw; (try dsimp only at hSw); go_simp; try with_reducible rfl
        try simp only [List.getElem_toArray]
        try simp only [List.getElem_cons_succ]
        try simp only [List.getElem_cons_zero]
        try simp only [Act.put]
        try simp only [List.setIfInBounds_toArray]
        try simp only [List.set]
        refine wpAnyH_take (i := 48) (v := ?v129) rfl (by kernel_rfl) (by kernel_rfl) (by kernel_rfl) (fun _ _ _ h => h) (Or.inl ⟨by kernel_rfl, ?h129⟩) hHeld ?_
        case h129 => intro u hSw; (try dsimp only at hSw); go_simp; try with_reducible rfl
        try simp only [List.getElem_toArray]
        try simp only [List.getElem_cons_succ]
        try simp only [List.getElem_cons_zero]
        try simp only [Act.put]
        try simp only [List.setIfInBounds_toArray]
        try simp only [List.set]
        refine wpAnyH_take (i := 49) (v := ?v130) rfl (by kernel_rfl) (by kernel_rfl) (by kernel_rfl) (fun _ _ _ h => h) (Or.inl ⟨by kernel_rfl, ?h130⟩) hHeld ?_
        case h130 => intro u hSw; (try dsimp only at hSw); go_simp; try with_reducible rfl
        try simp only [List.getElem_toArray]
        try simp only [List.getElem_cons_succ]
        try simp only [List.getElem_cons_zero]
        try simp only [Act.put]
        try simp only [List.setIfInBounds_toArray]
        try simp only [List.set]
        refine wpAnyH_take (i := 50) (v := ?v131) rfl (by kernel_rfl) (by kernel_rfl) (by kernel_rfl) (fun _ _ _ h => h) (Or.inl ⟨by kernel_rfl, ?h131⟩) hHeld ?_
        case h131 => intro u hSw; (try dsimp only at hSw); go_simp; try with_reducible rfl
        try simp only [List.getElem_toArray]
        try simp only [List.getElem_cons_succ]
        try simp only [List.getElem_cons_zero]
        try simp only [Act.put]
        try simp only [List.setIfInBounds_toArray]
        try simp only [List.set]
        refine wpAnyH_done (by kernel_rfl) ?_ _
        go_wp2_with fail
        go_ret
        exact ⟨by simp, GT.out _ (MG.out _ hHeld)⟩
    · have d0 : (q == 0) = false := by simpa using hq
      have d1 : (q != 0) = true := by simpa using hq
      clear HTI HTS HPos HPB HCu HBb HBn hbc hbm
      go_upto_region 10 with (fail)
      clear B0
      refine wp_region_held_drew (S := G) (by kernel_rfl) (HGU.out _ _ (Below.refl _ Y3).drew hG) (fun hHeld => ?_)
      generalize Y3.drew = V at hHeld ⊢
      clear hG
      refine wpAnyH_take (i := 0) (v := ?v45) rfl (by kernel_rfl) (by kernel_rfl) (by kernel_rfl) (fun _ _ _ h => h) (Or.inl ⟨by kernel_rfl, ?h45⟩) hHeld ?_
      case h45 => intro u hSw; have q0 := GR0.out _ hSw; have q1 := GR1.out _ hSw; have q2 := GR2.out _ hSw; have q3 := GR3.out _ hSw; clear hSw; go_simp; try with_reducible rfl
      try simp only [List.getElem_toArray]
      try simp only [List.getElem_cons_succ]
      try simp only [List.getElem_cons_zero]
      try simp only [Act.put]
      try simp only [List.setIfInBounds_toArray]
      try simp only [List.set]
      refine wpAnyH_take (i := 3) (v := ?v46) rfl (by kernel_rfl) (by kernel_rfl) (by kernel_rfl) (fun _ _ _ h => h) (Or.inl ⟨by kernel_rfl, ?h46⟩) hHeld ?_
      case h46 => intro u hSw; (try dsimp only at hSw); go_simp; try with_reducible rfl
      try simp only [List.getElem_toArray]
      try simp only [List.getElem_cons_succ]
      try simp only [List.getElem_cons_zero]
      try simp only [Act.put]
      try simp only [List.setIfInBounds_toArray]
      try simp only [List.set]
      refine wpAnyH_take (i := 4) (v := ?v47) rfl (by kernel_rfl) (by kernel_rfl) (by kernel_rfl) (fun _ _ _ h => h) (Or.inl ⟨by kernel_rfl, ?h47⟩) hHeld ?_
      case h47 => intro u hSw; have q0 := GB0.out _ hSw; clear hSw; go_simp; try with_reducible rfl
      try simp only [List.getElem_toArray]
      try simp only [List.getElem_cons_succ]
      try simp only [List.getElem_cons_zero]
      try simp only [Act.put]
      try simp only [List.setIfInBounds_toArray]
      try simp only [List.set]
      refine wpAnyH_ready (rs := [1]) (by kernel_rfl) (by simp) ?_
      refine AllReadyH.cons rfl (fun K hK => ?_) AllReadyH.nil
      go_simp
      go_wp2_with (go_at_call 12; refine (HS.out _ (GRn.out _ hHeld)).mono ?_; rintro e w5 ⟨x5, m5, c5, rfl, hb⟩)
      refine hK.out _ _ (HGU.out _ _ hb hHeld) (fun hHeld => ?_)
      clear hK K
      clear hb
      try simp only [Act.put]
      try simp only [List.setIfInBounds_toArray]
      try simp only [List.set]
      refine wpAnyH_take (i := 2) (v := ?v48) rfl (by kernel_rfl) (by kernel_rfl) (by kernel_rfl) (fun _ _ _ h => h) (Or.inl ⟨by kernel_rfl, ?h48⟩) hHeld ?_
      case h48 => intro u hSw; (try dsimp only at hSw); go_simp; try with_reducible rfl
      try simp only [List.getElem_toArray]
      try simp only [List.getElem_cons_succ]
      try simp only [List.getElem_cons_zero]
      try simp only [Act.put]
      try simp only [List.setIfInBounds_toArray]
      try simp only [List.set]
      refine wpAnyH_take (i := 5) (v := ?v49) rfl (by kernel_rfl) (by kernel_rfl) (by kernel_rfl) (fun _ _ _ h => h) (Or.inl ⟨by kernel_rfl, ?h49⟩) hHeld ?_
      case h49 => intro u hSw; (try dsimp only at hSw); go_simp; try with_reducible rfl
      try simp only [List.getElem_toArray]
      try simp only [List.getElem_cons_succ]
      try simp only [List.getElem_cons_zero]
      try simp only [Act.put]
      try simp only [List.setIfInBounds_toArray]
      try simp only [List.set]
      refine wpAnyH_take (i := 6) (v := ?v50) rfl (by kernel_rfl) (by kernel_rfl) (by kernel_rfl) (fun _ _ _ h => h) (Or.inl ⟨by kernel_rfl, ?h50⟩) hHeld ?_
      case h50 => intro u hSw; (try dsimp only at hSw); go_simp; try with_reducible rfl
      try simp only [List.getElem_toArray]
      try simp only [List.getElem_cons_succ]
      try simp only [List.getElem_cons_zero]
      try simp only [Act.put]
      try simp only [List.setIfInBounds_toArray]
      try simp only [List.set]
      refine wpAnyH_take (i := 7) (v := ?v51) rfl (by kernel_rfl) (by kernel_rfl) (by kernel_rfl) (fun _ _ _ h => h) (Or.inl ⟨by kernel_rfl, ?h51⟩) hHeld ?_
      case h51 => intro u hSw; have q0 := GR0.out _ hSw; have q1 := GR1.out _ hSw; have q2 := GR2.out _ hSw; have q3 := GR3.out _ hSw; clear hSw; go_simp; try with_reducible rfl
      try simp only [List.getElem_toArray]
      try simp only [List.getElem_cons_succ]
      try simp only [List.getElem_cons_zero]
      try simp only [Act.put]
      try simp only [List.setIfInBounds_toArray]
      try simp only [List.set]
      refine wpAnyH_take (i := 9) (v := ?v52) rfl (by kernel_rfl) (by kernel_rfl) (by kernel_rfl) (fun _ _ _ h => h) (Or.inl ⟨by kernel_rfl, ?h52⟩) hHeld ?_
      case h52 => intro u hSw; (try dsimp only at hSw); go_simp; try with_reducible rfl
      try simp only [List.getElem_toArray]
      try simp only [List.getElem_cons_succ]
      try simp only [List.getElem_cons_zero]
      try simp only [Act.put]
      try simp only [List.setIfInBounds_toArray]
      try simp only [List.set]
      refine wpAnyH_take (i := 10) (v := ?v53) rfl (by kernel_rfl) (by kernel_rfl) (by kernel_rfl) (fun _ _ _ h => h) (Or.inl ⟨by kernel_rfl, ?h53⟩) hHeld ?_
      case h53 => intro u hSw; have q0 := GB0.out _ hSw; clear hSw; go_simp; try with_reducible rfl
      try simp only [List.getElem_toArray]
      try simp only [List.getElem_cons_succ]
      try simp only [List.getElem_cons_zero]
      try simp only [Act.put]
      try simp only [List.setIfInBounds_toArray]
      try simp only [List.set]
      refine wpAnyH_ready (rs := [8]) (by kernel_rfl) (by simp) ?_
      refine AllReadyH.cons rfl (fun K hK => ?_) AllReadyH.nil
      go_simp
      go_wp2_with (go_at_call 13; refine (HRf.out _ (GRn.out _ hHeld)).mono ?_; rintro e w6 ⟨rfl, hb⟩)
      refine hK.out _ _ (HGU.out _ _ hb hHeld) (fun hHeld => ?_)
      clear hK K
      clear hb
      try simp only [Act.put]
      try simp only [List.setIfInBounds_toArray]
      try simp only [List.set]
      refine wpAnyH_take (i := 11) (v := ?v54) rfl (by kernel_rfl) (by kernel_rfl) (by kernel_rfl) (fun _ _ _ h => h) (Or.inl ⟨by kernel_rfl, ?h54⟩) hHeld ?_
      case h54 => intro u hSw; (try dsimp only at hSw); go_simp; try with_reducible rfl
      try simp only [List.getElem_toArray]
      try simp only [List.getElem_cons_succ]
      try simp only [List.getElem_cons_zero]
      try simp only [Act.put]
      try simp only [List.setIfInBounds_toArray]
      try simp only [List.set]
      refine wpAnyH_take (i := 12) (v := ?v55) rfl (by kernel_rfl) (by kernel_rfl) (by kernel_rfl) (fun _ _ _ h => h) (Or.inl ⟨by kernel_rfl, ?h55⟩) hHeld ?_
      case h55 => intro u hSw; (try dsimp only at hSw); go_simp; try with_reducible rfl
      try simp only [List.getElem_toArray]
      try simp only [List.getElem_cons_succ]
      try simp only [List.getElem_cons_zero]
      try simp only [Act.put]
      try simp only [List.setIfInBounds_toArray]
      try simp only [List.set]
      refine wpAnyH_take (i := 13) (v := ?v56) rfl (by kernel_rfl) (by kernel_rfl) (by kernel_rfl) (fun _ _ _ h => h) (Or.inl ⟨by kernel_rfl, ?h56⟩) hHeld ?_
      case h56 => intro u hSw; (try dsimp only at hSw); go_simp; try with_reducible rfl
      try simp only [List.getElem_toArray]
      try simp only [List.getElem_cons_succ]
      try simp only [List.getElem_cons_zero]
      try simp only [Act.put]
      try simp only [List.setIfInBounds_toArray]
      try simp only [List.set]
      refine wpAnyH_done (by kernel_rfl) ?_ _
      go_wp2_with fail
      go_ret
      exact ⟨rfl, GT.out _ hHeld⟩

end Go.Proofs.YtcjkjenebnodbaaDoor
