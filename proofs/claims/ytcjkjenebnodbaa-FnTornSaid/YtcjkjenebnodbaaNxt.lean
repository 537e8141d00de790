/-
  The program's nextRecord and readThrough: what cannot be read is a panic.
-/
import Derived.Test.YtcjkjenebnodbaaLgp
namespace Go.Proofs.Ytcjkjenebnodbaa
open Go.RowKit
set_option linter.unusedVariables false

/-- Block b holds the six cells of a RecordResult. -/
structure R6 (V : World) (b : Nat) (q u k t g : Int) (a : Option Addr) (n c : Nat) : Prop where
  c0 : V.cell? ⟨b, 0, none⟩ = some (.int .i64 q)
  c1 : V.cell? ⟨b, 1, none⟩ = some (.int .i64 u)
  c2 : V.cell? ⟨b, 2, none⟩ = some (.int .i64 k)
  c3 : V.cell? ⟨b, 3, none⟩ = some (.int .i64 t)
  c4 : V.cell? ⟨b, 4, none⟩ = some (.int .i64 g)
  c5 : V.cell? ⟨b, 5, none⟩ = some (.slice a n c)

/-- A panic of the program's own text, not recovered yet. -/
def Panicked (e : Ending) : Prop := ∃ pv, e = .panicked [{ v := .iface 9 pv, recovered := false }]

set_option maxHeartbeats 1000000 in
theorem nextRecord_ok (zs : List Int) (a : Option Addr) (cap : Nat) (w : World) (hm : zs.length ≤ 1048576) (hcap : zs.length ≤ cap) (hcm : cap ≤ 9223372036854775807) (hf : Reads w a zs) (hz : ∀ z ∈ zs, 0 ≤ z ∧ z ≤ 255) (hok : OkI zs) :
    Calls Try.prog 74 #[.slice a zs.length cap] w fun e w' => RRPost w zs e w' := by
  have HI : Hid (∀ X, Below w.heap.size w X → Calls Try.prog 43 #[.slice a zs.length cap] X fun e w' => RRPost X zs e w') := fun X g => implReadRecord_any zs a cap X hm hcap hcm (hf.below g (Nat.le_refl _)) hz
  have HPo : Hid (∀ X e w', RRPost X zs e w' ↔ ∃ a c A C F, e = .returned (.agg #[.int .i64 0, .int .i64 (uR zs), .int .i64 (kR zs 1), .int .i64 (kR zs 2), .int .i64 (kR zs 3), .slice a (nR zs) c]) ∧ Below X.heap.size X w' ∧ OwnS X.heap.size w'.heap.size w' a (nR zs) (rP zs) A C (rZ zs) F) := fun _ _ _ => by unfold RRPost; rw [(rr_yes hok).1]
  clear hf hz hok
  generalize (uR zs : Int) = u at HPo
  generalize kR zs 1 = k at HPo
  generalize kR zs 2 = t at HPo
  generalize kR zs 3 = g at HPo
  generalize nR zs = n at HPo
  have hA := a6_new w
  go_enter Try.func74, Try.ntmps74
  go_upto_region 1 with (fail)
  generalize w.alloc (.cells #[.int .i64 0, .int .i64 0, .int .i64 0, .int .i64 0, .int .i64 0, .slice none 0 0] 61) = Y at hA ⊢
  have hYs : w.heap.size + 1 ≤ Y.heap.size := hA.s
  go_wp2_with fail
  refine (HI.out _ hA.g).mono ?_
  intro e w2 hp
  obtain ⟨a2, d2, A2, C2, F2, rfl, g2, y2⟩ := (HPo.out _ _ _).1 hp

  have hA := hA.up g2
  have y2 := y2.mono (lo' := w.heap.size + 1) hYs (Nat.le_refl _)
  clear hp g2
  go_upto_region 2 with (fail)
  generalize hY2 : World.alloc w2 _ = Y2
  have gY : Below w2.heap.size w2 Y2 := by rw [← hY2]; go_grown
  have r2 : R6 Y2 w2.heap.size 0 u k t g a2 n d2 := by rw [← hY2]; exact ⟨by simp [go_sem], by simp [go_sem], by simp [go_sem], by simp [go_sem], by simp [go_sem], by simp [go_sem]⟩
  have hA := hA.up gY
  have hsz := gY.size
  have y2 := (y2.below gY).mono (Nat.le_refl _) gY.size
  clear hY2 gY hYs
  generalize w2.heap.size = b2 at r2 hsz y2 ⊢
  obtain ⟨p0, p1, p2, p3, p4, p5⟩ := r2
  have hs := hA.s
  have gA := hA.g
  obtain ⟨q0, q1, q2, q3, q4, q5, k0, k1, k2, k3, k4, k5, _, _⟩ := hA
  have HO : Hid (OwnS (w.heap.size + 1) Y2.heap.size Y2 a2 n (rP zs) A2 C2 (rZ zs) F2) := y2
  clear y2
  go_wp2_with fail
  refine bodyPost_ret (v := .agg #[.int .i64 0, .int .i64 u, .int .i64 k, .int .i64 t, .int .i64 g, .slice a2 n d2]) (by simp [results, Try.results74, go_sem, *]) rfl ?_
  refine (HPo.out _ _ _).2 ⟨a2, d2, A2, C2, F2, rfl, by go_grown, ?_⟩
  have T : Turned w.heap.size (w.heap.size + 1) Y2 _ := (((((((Turned.refl _ _ Y2).setCell (p := ⟨w.heap.size, 0, none⟩) (by simp) (by simp) (.int .i64 0)).setCell (p := ⟨w.heap.size, 1, none⟩) (by simp) (by simp) (.int .i64 u)).setCell (p := ⟨w.heap.size, 2, none⟩) (by simp) (by simp) (.int .i64 k)).setCell (p := ⟨w.heap.size, 3, none⟩) (by simp) (by simp) (.int .i64 t)).setCell (p := ⟨w.heap.size, 4, none⟩) (by simp) (by simp) (.int .i64 g)).setCell (p := ⟨w.heap.size, 5, none⟩) (by simp) (by simp) (.slice a2 n d2))
  exact (HO.out.turned T (.inr (Nat.le_refl _))).mono (by omega) (by simp)

set_option maxHeartbeats 1000000 in
theorem nextRecord_bad (zs : List Int) (a : Option Addr) (cap : Nat) (w : World) (hm : zs.length ≤ 1048576) (hcap : zs.length ≤ cap) (hcm : cap ≤ 9223372036854775807) (hf : Reads w a zs) (hz : ∀ z ∈ zs, 0 ≤ z ∧ z ≤ 255) (hno : ¬ OkI zs) :
    Calls Try.prog 74 #[.slice a zs.length cap] w fun e w' => Panicked e ∧ Below w.heap.size w w' := by
  have HI : Hid (∀ X, Below w.heap.size w X → Calls Try.prog 43 #[.slice a zs.length cap] X fun e w' => RRPost X zs e w') := fun X g => implReadRecord_any zs a cap X hm hcap hcm (hf.below g (Nat.le_refl _)) hz
  have HPo : Hid (∀ X e w', RRPost X zs e w' → ∃ a c, e = .returned (.agg #[.int .i64 5, .int .i64 0, .int .i64 0, .int .i64 0, .int .i64 0, .slice a 0 c]) ∧ Below X.heap.size X w') := fun X e w' h => by
    obtain ⟨e0, e1, e2, e3, e4, e5⟩ := rr_no hno
    obtain ⟨a, c, A, C, F, h1, h2, h3⟩ := h
    rw [e0, e1, e2, e3, e4, e5] at h1
    exact ⟨a, c, h1, h2⟩
  clear hf hz hno
  have hA := a6_new w
  go_enter Try.func74, Try.ntmps74
  go_upto_region 1 with (fail)
  generalize w.alloc (.cells #[.int .i64 0, .int .i64 0, .int .i64 0, .int .i64 0, .int .i64 0, .slice none 0 0] 61) = Y at hA ⊢
  have gY := hA.g
  clear hA
  go_wp2_with fail
  refine (HI.out _ gY).mono ?_
  intro e w2 hp
  obtain ⟨a2, d2, rfl, g2⟩ := HPo.out _ _ _ hp
  have g2 := gY.trans (g2.mono gY.size)
  have hsz := g2.size
  clear hp gY
  go_wp2_with fail
  exact ⟨rfl, ⟨_, rfl⟩, by go_grown⟩

/-- What readThrough does: it panics where there is something behind the records. -/
def RtPost (w : World) (zs : List Int) (e : Ending) (w' : World) : Prop := (logU zs = zs.length → e = .returned (.tuple #[])) ∧ (logU zs ≠ zs.length → Panicked e) ∧ Below w.heap.size w w'

def lenV : Value → Nat
  | .slice _ n _ => n
  | _ => 0

set_option maxHeartbeats 1000000 in
theorem readThrough_any (zs : List Int) (a : Option Addr) (cap : Nat) (w : World) (hm : zs.length ≤ 1048576) (hcap : zs.length ≤ cap) (hcm : cap ≤ 9223372036854775807) (hf : Reads w a zs) (hz : ∀ z ∈ zs, 0 ≤ z ∧ z ≤ 255) :
    Calls Try.prog 88 #[.slice a zs.length cap] w fun e w' => RtPost w zs e w' := by
  have HZ : Hid (∀ z ∈ zs, 0 ≤ z ∧ z ≤ 255) := hz
  have HF : Hid (Reads w a (from' zs 0)) := hf
  have HL : Hid (zs.length = (from' zs 0).length) := rfl
  have hfld : ∀ (u k t g : Int) (a : Option Addr) (n c : Nat) (W : World), (Instr.field 61 (.agg #[.int .i64 0, .int .i64 u, .int .i64 k, .int .i64 t, .int .i64 g, .slice a n c]) 1).run Try.prog W = .ok (.int .i64 u) W := fun _ _ _ _ _ _ _ _ => by kernel_rfl
  clear hz hf
  go_enter Try.func88, Try.ntmps88
  go_wp2_with fail
  go_loopw [0] (fun dv wr => ∃ (j : Nat) (da : Option Addr) (dc : Nat), j ≤ lgN zs ∧ dv = .slice da (from' zs j).length dc ∧ (from' zs j).length ≤ dc ∧ dc ≤ 9223372036854775807 ∧ Hid (Reads w da (from' zs j)) ∧ Below w.heap.size w wr) (fun dv _ => lenV dv)
  case atStart => exact ⟨0, a, cap, Nat.zero_le _, by rw [← HL.out], by rw [← HL.out]; exact hcap, hcm, HF, Below.refl _ _⟩
  case round =>
    obtain ⟨j, da, dc, hj, rfl, hdc, hdm, hR, g⟩ := hrel
    have hpl := (lp_le zs j hj).2
    have hfl := from_len zs j
    by_cases h0 : (from' zs j).length = 0
    · have HE : Hid (logU zs = zs.length) := (lg_full hj (by omega)).2
      rw [h0]
      clear hfl h0
      go_wp2_with fail
      first | go_end0 | refine bodyPost_ret (results_none rfl _ _ _) rfl ?_
      exact ⟨fun _ => rfl, fun h => absurd HE.out h, g⟩
    · have hRw : Reads wr da (from' zs j) := hR.out.below g (Nat.le_refl _)
      have hlm : (from' zs j).length ≤ 1048576 := by omega
      by_cases hlt : j < lgN zs
      · obtain ⟨hu1, hu7, hul⟩ := uR_from zs j hlt
        have hC := nextRecord_ok (from' zs j) da dc wr hlm hdc hdm hRw (from_bd HZ.out j) (lg_ok zs j hlt)
        have HC : Hid (Calls Try.prog 74 #[.slice da (from' zs j).length dc] wr fun e w' => ∃ (k t g : Int) (a : Option Addr) (n c : Nat), e = .returned (.agg #[.int .i64 0, .int .i64 (uR (from' zs j)), .int .i64 k, .int .i64 t, .int .i64 g, .slice a n c]) ∧ Below wr.heap.size wr w') := by
          refine hC.mono ?_
          rintro e w' ⟨a, c, A, C, F, he, hb, _⟩
          rw [(rr_yes (lg_ok zs j hlt)).1] at he
          exact ⟨_, _, _, _, _, _, he, hb⟩
        have HN : Hid ((from' zs (j + 1)).length = (from' zs j).length - uR (from' zs j)) := by show _ = _; rw [from_len zs (j + 1), hu1, hfl]; omega
        obtain ⟨b, off, rfl, hc⟩ : ∃ b off, da = some ⟨b, off, none⟩ ∧ ∀ i, i < (from' zs j).length → w.cell? ⟨b, off + i, none⟩ = some (.int .u8 ((from' zs j).getD i 0)) := by
          rcases hR.out with h | ⟨b, off, h, hc⟩
          · rw [h] at h0; exact absurd rfl h0
          · exact ⟨b, off, h, hc⟩
        have HRn : Hid (Reads w (some ⟨b, off + uR (from' zs j), none⟩) (from' zs (j + 1))) := .inr ⟨b, off + uR (from' zs j), rfl, fun i hi => by
          have h1 := hc (uR (from' zs j) + i) (by rw [HN.out] at hi; omega)
          rw [← Nat.add_assoc] at h1
          rw [h1]
          have : (from' zs (j + 1)).getD i 0 = (from' zs j).getD (uR (from' zs j) + i) 0 := by
            unfold from'
            simp only [List.getD, List.getElem?_drop]
            rw [hu1, Nat.add_assoc]
            rfl
          rw [this]⟩
        have HE0 : Hid ((from' zs (j + 1)).length = 0 → Reads w (some ⟨b, off, none⟩) (from' zs (j + 1))) := fun h => .inl (List.eq_nil_of_length_eq_zero h)
        clear hC hRw hR hc hu1 hfl
        generalize uR (from' zs j) = u at HC hu7 hul HN HRn ⊢
        generalize (from' zs j).length = L at HC hul HN h0 hlm hdc ⊢
        have hL0 : (0 : Int) < (L : Int) := by omega
        go_wp2_with fail
        refine HC.out.mono ?_
        rintro e w2 ⟨k, t, g', a2, n2, c2, rfl, g2⟩
        have g := g.trans (g2.mono g.size)
        clear g2 HC
        have hu0 : (0 : Int) ≤ (u : Int) := by omega
        have huL : (u : Int) ≤ (L : Int) := by omega
        by_cases hdu : dc = u
        · have hLu : L = u := by omega
          go_wp2_with fail
          go_roundw
          case rel => exact ⟨j + 1, some ⟨b, off, none⟩, 0, by omega, by rw [HN.out, show L - u = 0 by omega], by rw [HN.out]; omega, by omega, HE0.out (by rw [HN.out]; omega), g⟩
          case measure => simp [lenV]; omega
        · go_wp2_with fail
          go_roundw
          case rel => exact ⟨j + 1, some ⟨b, off + u, none⟩, dc - u, by omega, by rw [HN.out], by rw [HN.out]; omega, by omega, HRn.out, g⟩
          case measure => simp [lenV]; omega
      · have hjl : j = lgN zs := by omega
        have HE : Hid (logU zs ≠ zs.length) := lg_torn hjl (by omega)
        have HC : Hid (Calls Try.prog 74 #[.slice da (from' zs j).length dc] wr fun e w' => Panicked e ∧ Below wr.heap.size wr w') := nextRecord_bad (from' zs j) da dc wr hlm hdc hdm hRw (from_bd HZ.out j) (by rw [hjl]; exact lg_no zs)
        clear hRw hR hfl
        generalize (from' zs j).length = L at HC h0 hlm hdc ⊢
        have hL0 : (0 : Int) < (L : Int) := by omega
        go_wp2_with fail
        refine HC.out.mono ?_
        rintro e w2 ⟨⟨pv, rfl⟩, g2⟩
        have g := g.trans (g2.mono g.size)
        clear g2 HC
        go_wp2_with fail
        exact ⟨rfl, fun h => absurd h HE.out, fun _ => ⟨_, rfl⟩, g⟩

end Go.Proofs.Ytcjkjenebnodbaa
