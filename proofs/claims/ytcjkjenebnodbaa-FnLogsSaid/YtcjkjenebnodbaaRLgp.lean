/-
  Plain facts on the records that stand one behind the other in bytes.
-/
import Derived.Test.YtcjkjenebnodbaaRIrr
import Derived.Test.YtcjkjenebnodbaaRRss

namespace Go.Proofs.Ytcjkjenebnodbaa
set_option linter.unusedVariables false

/-- Where the j-th record begins. -/
def lp (zs : List Int) : Nat → Nat
  | 0 => 0
  | j + 1 => lp zs j + len0 (zs.drop (lp zs j))
/-- The bytes from the j-th record on. -/
def from' (zs : List Int) (j : Nat) : List Int := zs.drop (lp zs j)
/-- How many records are read, from the j-th on, of at most m. -/
def lgC (zs : List Int) : Nat → Nat → Nat
  | 0, j => j
  | m + 1, j => if OkI (from' zs j) then lgC zs m (j + 1) else j
/-- How many records there are. -/
def lgN (zs : List Int) : Nat := lgC zs zs.length 0
/-- How many bytes they have. -/
def logU (zs : List Int) : Nat := lp zs (lgN zs)

theorem lgC_le (zs : List Int) : ∀ m j, j ≤ lgC zs m j ∧ lgC zs m j ≤ j + m
  | 0, j => ⟨Nat.le_refl _, Nat.le_refl _⟩
  | m + 1, j => by
    simp only [lgC]
    split
    · have := lgC_le zs m (j + 1); omega
    · omega
theorem lgC_ok (zs : List Int) : ∀ m j i, j ≤ i → i < lgC zs m j → OkI (from' zs i)
  | 0, j, i, h1, h2 => by simp only [lgC] at h2; omega
  | m + 1, j, i, h1, h2 => by
    simp only [lgC] at h2
    split at h2
    · rename_i h
      by_cases e : i = j
      · rw [e]; exact h
      · exact lgC_ok zs m (j + 1) i (by omega) h2
    · omega
theorem lgC_end (zs : List Int) : ∀ m j, lgC zs m j < j + m → ¬ OkI (from' zs (lgC zs m j))
  | 0, j, h => by simp only [lgC] at h; omega
  | m + 1, j, h => by
    simp only [lgC] at h ⊢
    split
    · rename_i h1
      rw [if_pos h1] at h
      exact lgC_end zs m (j + 1) (by omega)
    · assumption
theorem lp_grows (zs : List Int) : ∀ j, (∀ i, i < j → OkI (from' zs i)) → 7 * j ≤ lp zs j ∧ lp zs j ≤ zs.length
  | 0, _ => ⟨Nat.le_refl _, Nat.zero_le _⟩
  | j + 1, h => by
    have ih := lp_grows zs j (fun i hi => h i (by omega))
    have h1 := ok_len (h j (by omega))
    have h2 : (from' zs j).length = zs.length - lp zs j := by unfold from'; rw [List.length_drop]
    have h3 : lp zs (j + 1) = lp zs j + len0 (from' zs j) := rfl
    omega
theorem lg_ok (zs : List Int) (i : Nat) (h : i < lgN zs) : OkI (from' zs i) := lgC_ok zs _ 0 i (Nat.zero_le _) h
theorem lp_le (zs : List Int) (j : Nat) (h : j ≤ lgN zs) : 7 * j ≤ lp zs j ∧ lp zs j ≤ zs.length := lp_grows zs j (fun i hi => lg_ok zs i (by omega))
theorem lg_no (zs : List Int) : ¬ OkI (from' zs (lgN zs)) := by
  by_cases h : lgN zs < zs.length
  · exact lgC_end zs zs.length 0 (by unfold lgN at h; omega)
  · have h1 := lp_le zs (lgN zs) (Nat.le_refl _)
    intro hk
    have h3 := hk.1
    have h4 : (from' zs (lgN zs)).length = zs.length - lp zs (lgN zs) := by unfold from'; rw [List.length_drop]
    omega
theorem lg_iff (zs : List Int) (j : Nat) (h : j ≤ lgN zs) : OkI (from' zs j) ↔ j < lgN zs := by
  constructor
  · intro hk
    by_cases e : j = lgN zs
    · rw [e] at hk; exact absurd hk (lg_no zs)
    · omega
  · exact lg_ok zs j
theorem from_len (zs : List Int) (j : Nat) : (from' zs j).length = zs.length - lp zs j := by unfold from'; rw [List.length_drop]
theorem from_bd {zs : List Int} (hz : ∀ z ∈ zs, 0 ≤ z ∧ z ≤ 255) (j : Nat) : ∀ z ∈ from' zs j, 0 ≤ z ∧ z ≤ 255 := fun z h => hz z (List.mem_of_mem_drop h)
theorem uR_from (zs : List Int) (j : Nat) (h : j < lgN zs) : lp zs (j + 1) = lp zs j + uR (from' zs j) ∧ 7 ≤ uR (from' zs j) ∧ uR (from' zs j) ≤ (from' zs j).length := by
  have hk := lg_ok zs j h
  have h1 := ok_len hk
  have e : uR (from' zs j) = len0 (from' zs j) := (rr_yes hk).2.1
  rw [e]
  exact ⟨rfl, h1.2.1, h1.2.2.1⟩
theorem logU_le (zs : List Int) : logU zs ≤ zs.length := (lp_le zs _ (Nat.le_refl _)).2
theorem lgN_le (zs : List Int) : 7 * lgN zs ≤ zs.length := by have := lp_le zs (lgN zs) (Nat.le_refl _); omega
theorem lg_full {zs : List Int} {j : Nat} (h : j ≤ lgN zs) (he : lp zs j = zs.length) : j = lgN zs ∧ logU zs = zs.length := by
  by_cases e : j < lgN zs
  · have h1 := uR_from zs j e
    have h2 := (lp_le zs (j + 1) (by omega)).2
    omega
  · have : j = lgN zs := by omega
    subst this
    exact ⟨rfl, he⟩
theorem lg_torn {zs : List Int} {j : Nat} (h : j = lgN zs) (hl : lp zs j < zs.length) : logU zs ≠ zs.length := by subst h; unfold logU; omega

end Go.Proofs.Ytcjkjenebnodbaa

/-
  The program's nextRecord and readThrough: what cannot be read is a panic.
-/
namespace Go.Proofs.Ytcjkjenebnodbaa
open Go.RowKit
set_option linter.unusedVariables false

/-- Block b holds the six cells of a RecordResult. -/
structure R6 (V : World) (b : Nat) (q u k t g : Int) (a : Option Addr) (n c : Nat) : Prop where
  c0 : V.cell? ⟨b, 0, none⟩ = some (.int .i64 q)
  c1 : V.cell? ⟨b, 1, none⟩ = some (.int .i64 u)
  c2 : V.cell? ⟨b, 2, none⟩ = some (.int .i64 k)
  c3 : V.cell? ⟨b, 3, none⟩ = some (.int .i64 t)
  c4 : V.cell? ⟨b, 4, none⟩ = some (.int .i64 g)
  c5 : V.cell? ⟨b, 5, none⟩ = some (.slice a n c)

/-- A panic of the program's own text, not recovered yet. -/
def Panicked (e : Ending) : Prop := ∃ pv, e = .panicked [{ v := .iface 9 pv, recovered := false }]

set_option maxHeartbeats 1000000 in
theorem nextRecord_ok (zs : List Int) (a : Option Addr) (cap : Nat) (w : World) (hm : zs.length ≤ 1048576) (hcap : zs.length ≤ cap) (hcm : cap ≤ 9223372036854775807) (hf : Reads w a zs) (hz : ∀ z ∈ zs, 0 ≤ z ∧ z ≤ 255) (hok : OkI zs) :
    Calls Try.prog 74 #[.slice a zs.length cap] w fun e w' => RRPost w zs e w' := by
  have HI : Hid (∀ X, Below w.heap.size w X → Calls Try.prog 43 #[.slice a zs.length cap] X fun e w' => RRPost X zs e w') := fun X g => implReadRecord_any zs a cap X hm hcap hcm (hf.below g (Nat.le_refl _)) hz
  have HPo : Hid (∀ X e w', RRPost X zs e w' ↔ ∃ a c A C F, e = .returned (.agg #[.int .i64 0, .int .i64 (uR zs), .int .i64 (kR zs 1), .int .i64 (kR zs 2), .int .i64 (kR zs 3), .slice a (nR zs) c]) ∧ Below X.heap.size X w' ∧ OwnS X.heap.size w'.heap.size w' a (nR zs) (rP zs) A C (rZ zs) F) := fun _ _ _ => by unfold RRPost; rw [(rr_yes hok).1]
  clear hf hz hok
  generalize (uR zs : Int) = u at HPo
  generalize kR zs 1 = k at HPo
  generalize kR zs 2 = t at HPo
  generalize kR zs 3 = g at HPo
  generalize nR zs = n at HPo
  have hA := a6_new w
  go_enter Try.func74, Try.ntmps74
  go_upto_region 1 with (fail)
  generalize w.alloc (.cells #[.int .i64 0, .int .i64 0, .int .i64 0, .int .i64 0, .int .i64 0, .slice none 0 0] 61) = Y at hA ⊢
  have hYs : w.heap.size + 1 ≤ Y.heap.size := hA.s
  go_wp2_with fail
  refine (HI.out _ hA.g).mono ?_
  intro e w2 hp
  obtain ⟨a2, d2, A2, C2, F2, rfl, g2, y2⟩ := (HPo.out _ _ _).1 hp

  have hA := hA.up g2
  have y2 := y2.mono (lo' := w.heap.size + 1) hYs (Nat.le_refl _)
  clear hp g2
  go_upto_region 2 with (fail)
  generalize hY2 : World.alloc w2 _ = Y2
  have gY : Below w2.heap.size w2 Y2 := by rw [← hY2]; go_grown
  have r2 : R6 Y2 w2.heap.size 0 u k t g a2 n d2 := by rw [← hY2]; exact ⟨by simp [go_sem], by simp [go_sem], by simp [go_sem], by simp [go_sem], by simp [go_sem], by simp [go_sem]⟩
  have hA := hA.up gY
  have hsz := gY.size
  have y2 := (y2.below gY).mono (Nat.le_refl _) gY.size
  clear hY2 gY hYs
  generalize w2.heap.size = b2 at r2 hsz y2 ⊢
  obtain ⟨p0, p1, p2, p3, p4, p5⟩ := r2
  have hs := hA.s
  have gA := hA.g
  obtain ⟨q0, q1, q2, q3, q4, q5, k0, k1, k2, k3, k4, k5, _, _⟩ := hA
  have HO : Hid (OwnS (w.heap.size + 1) Y2.heap.size Y2 a2 n (rP zs) A2 C2 (rZ zs) F2) := y2
  clear y2
  go_wp2_with fail
  refine bodyPost_ret (v := .agg #[.int .i64 0, .int .i64 u, .int .i64 k, .int .i64 t, .int .i64 g, .slice a2 n d2]) (by simp [results, Try.results74, go_sem, *]) rfl ?_
  refine (HPo.out _ _ _).2 ⟨a2, d2, A2, C2, F2, rfl, by go_grown, ?_⟩
  have T : Turned w.heap.size (w.heap.size + 1) Y2 _ := (((((((Turned.refl _ _ Y2).setCell (p := ⟨w.heap.size, 0, none⟩) (by simp) (by simp) (.int .i64 0)).setCell (p := ⟨w.heap.size, 1, none⟩) (by simp) (by simp) (.int .i64 u)).setCell (p := ⟨w.heap.size, 2, none⟩) (by simp) (by simp) (.int .i64 k)).setCell (p := ⟨w.heap.size, 3, none⟩) (by simp) (by simp) (.int .i64 t)).setCell (p := ⟨w.heap.size, 4, none⟩) (by simp) (by simp) (.int .i64 g)).setCell (p := ⟨w.heap.size, 5, none⟩) (by simp) (by simp) (.slice a2 n d2))
  exact (HO.out.turned T (.inr (Nat.le_refl _))).mono (by omega) (by simp)

set_option maxHeartbeats 1000000 in
theorem nextRecord_bad (zs : List Int) (a : Option Addr) (cap : Nat) (w : World) (hm : zs.length ≤ 1048576) (hcap : zs.length ≤ cap) (hcm : cap ≤ 9223372036854775807) (hf : Reads w a zs) (hz : ∀ z ∈ zs, 0 ≤ z ∧ z ≤ 255) (hno : ¬ OkI zs) :
    Calls Try.prog 74 #[.slice a zs.length cap] w fun e w' => Panicked e ∧ Below w.heap.size w w' := by
  have HI : Hid (∀ X, Below w.heap.size w X → Calls Try.prog 43 #[.slice a zs.length cap] X fun e w' => RRPost X zs e w') := fun X g => implReadRecord_any zs a cap X hm hcap hcm (hf.below g (Nat.le_refl _)) hz
  have HPo : Hid (∀ X e w', RRPost X zs e w' → ∃ a c, e = .returned (.agg #[.int .i64 5, .int .i64 0, .int .i64 0, .int .i64 0, .int .i64 0, .slice a 0 c]) ∧ Below X.heap.size X w') := fun X e w' h => by
    obtain ⟨e0, e1, e2, e3, e4, e5⟩ := rr_no hno
    obtain ⟨a, c, A, C, F, h1, h2, h3⟩ := h
    rw [e0, e1, e2, e3, e4, e5] at h1
    exact ⟨a, c, h1, h2⟩
  clear hf hz hno
  have hA := a6_new w
  go_enter Try.func74, Try.ntmps74
  go_upto_region 1 with (fail)
  generalize w.alloc (.cells #[.int .i64 0, .int .i64 0, .int .i64 0, .int .i64 0, .int .i64 0, .slice none 0 0] 61) = Y at hA ⊢
  have gY := hA.g
  clear hA
  go_wp2_with fail
  refine (HI.out _ gY).mono ?_
  intro e w2 hp
  obtain ⟨a2, d2, rfl, g2⟩ := HPo.out _ _ _ hp
  have g2 := gY.trans (g2.mono gY.size)
  have hsz := g2.size
  clear hp gY
  go_wp2_with fail
  exact ⟨rfl, ⟨_, rfl⟩, by go_grown⟩

/-- What readThrough does: it panics where there is something behind the records. -/
def RtPost (w : World) (zs : List Int) (e : Ending) (w' : World) : Prop := (logU zs = zs.length → e = .returned (.tuple #[])) ∧ (logU zs ≠ zs.length → Panicked e) ∧ Below w.heap.size w w'

def lenV : Value → Nat
  | .slice _ n _ => n
  | _ => 0

set_option maxHeartbeats 1000000 in
theorem readThrough_any (zs : List Int) (a : Option Addr) (cap : Nat) (w : World) (hm : zs.length ≤ 1048576) (hcap : zs.length ≤ cap) (hcm : cap ≤ 9223372036854775807) (hf : Reads w a zs) (hz : ∀ z ∈ zs, 0 ≤ z ∧ z ≤ 255) :
    Calls Try.prog 88 #[.slice a zs.length cap] w fun e w' => RtPost w zs e w' := by
  have HZ : Hid (∀ z ∈ zs, 0 ≤ z ∧ z ≤ 255) := hz
  have HF : Hid (Reads w a (from' zs 0)) := hf
  have HL : Hid (zs.length = (from' zs 0).length) := rfl
  have hfld : ∀ (u k t g : Int) (a : Option Addr) (n c : Nat) (W : World), (Instr.field 61 (.agg #[.int .i64 0, .int .i64 u, .int .i64 k, .int .i64 t, .int .i64 g, .slice a n c]) 1).run Try.prog W = .ok (.int .i64 u) W := fun _ _ _ _ _ _ _ _ => by kernel_rfl
  clear hz hf
  go_enter Try.func88, Try.ntmps88
  go_wp2_with fail
  go_loopw [0] (fun dv wr => ∃ (j : Nat) (da : Option Addr) (dc : Nat), j ≤ lgN zs ∧ dv = .slice da (from' zs j).length dc ∧ (from' zs j).length ≤ dc ∧ dc ≤ 9223372036854775807 ∧ Hid (Reads w da (from' zs j)) ∧ Below w.heap.size w wr) (fun dv _ => lenV dv)
  case atStart => exact ⟨0, a, cap, Nat.zero_le _, by rw [← HL.out], by rw [← HL.out]; exact hcap, hcm, HF, Below.refl _ _⟩
  case round =>
    obtain ⟨j, da, dc, hj, rfl, hdc, hdm, hR, g⟩ := hrel
    have hpl := (lp_le zs j hj).2
    have hfl := from_len zs j
    by_cases h0 : (from' zs j).length = 0
    · have HE : Hid (logU zs = zs.length) := (lg_full hj (by omega)).2
      rw [h0]
      clear hfl h0
      go_wp2_with fail
      first | go_end0 | refine bodyPost_ret (results_none rfl _ _ _) rfl ?_
      exact ⟨fun _ => rfl, fun h => absurd HE.out h, g⟩
    · have hRw : Reads wr da (from' zs j) := hR.out.below g (Nat.le_refl _)
      have hlm : (from' zs j).length ≤ 1048576 := by omega
      by_cases hlt : j < lgN zs
      · obtain ⟨hu1, hu7, hul⟩ := uR_from zs j hlt
        have hC := nextRecord_ok (from' zs j) da dc wr hlm hdc hdm hRw (from_bd HZ.out j) (lg_ok zs j hlt)
        have HC : Hid (Calls Try.prog 74 #[.slice da (from' zs j).length dc] wr fun e w' => ∃ (k t g : Int) (a : Option Addr) (n c : Nat), e = .returned (.agg #[.int .i64 0, .int .i64 (uR (from' zs j)), .int .i64 k, .int .i64 t, .int .i64 g, .slice a n c]) ∧ Below wr.heap.size wr w') := by
          refine hC.mono ?_
          rintro e w' ⟨a, c, A, C, F, he, hb, _⟩
          rw [(rr_yes (lg_ok zs j hlt)).1] at he
          exact ⟨_, _, _, _, _, _, he, hb⟩
        have HN : Hid ((from' zs (j + 1)).length = (from' zs j).length - uR (from' zs j)) := by show _ = _; rw [from_len zs (j + 1), hu1, hfl]; omega
        obtain ⟨b, off, rfl, hc⟩ : ∃ b off, da = some ⟨b, off, none⟩ ∧ ∀ i, i < (from' zs j).length → w.cell? ⟨b, off + i, none⟩ = some (.int .u8 ((from' zs j).getD i 0)) := by
          rcases hR.out with h | ⟨b, off, h, hc⟩
          · rw [h] at h0; exact absurd rfl h0
          · exact ⟨b, off, h, hc⟩
        have HRn : Hid (Reads w (some ⟨b, off + uR (from' zs j), none⟩) (from' zs (j + 1))) := .inr ⟨b, off + uR (from' zs j), rfl, fun i hi => by
          have h1 := hc (uR (from' zs j) + i) (by rw [HN.out] at hi; omega)
          rw [← Nat.add_assoc] at h1
          rw [h1]
          have : (from' zs (j + 1)).getD i 0 = (from' zs j).getD (uR (from' zs j) + i) 0 := by
            unfold from'
            simp only [List.getD, List.getElem?_drop]
            rw [hu1, Nat.add_assoc]
            rfl
          rw [this]⟩
        have HE0 : Hid ((from' zs (j + 1)).length = 0 → Reads w (some ⟨b, off, none⟩) (from' zs (j + 1))) := fun h => .inl (List.eq_nil_of_length_eq_zero h)
        clear hC hRw hR hc hu1 hfl
        generalize uR (from' zs j) = u at HC hu7 hul HN HRn ⊢
        generalize (from' zs j).length = L at HC hul HN h0 hlm hdc ⊢
        have hL0 : (0 : Int) < (L : Int) := by omega
        go_wp2_with fail
        refine HC.out.mono ?_
        rintro e w2 ⟨k, t, g', a2, n2, c2, rfl, g2⟩
        have g := g.trans (g2.mono g.size)
        clear g2 HC
        have hu0 : (0 : Int) ≤ (u : Int) := by omega
        have huL : (u : Int) ≤ (L : Int) := by omega
        by_cases hdu : dc = u
        · have hLu : L = u := by omega
          go_wp2_with fail
          go_roundw
          case rel => exact ⟨j + 1, some ⟨b, off, none⟩, 0, by omega, by rw [HN.out, show L - u = 0 by omega], by rw [HN.out]; omega, by omega, HE0.out (by rw [HN.out]; omega), g⟩
          case measure => simp [lenV]; omega
        · go_wp2_with fail
          go_roundw
          case rel => exact ⟨j + 1, some ⟨b, off + u, none⟩, dc - u, by omega, by rw [HN.out], by rw [HN.out]; omega, by omega, HRn.out, g⟩
          case measure => simp [lenV]; omega
      · have hjl : j = lgN zs := by omega
        have HE : Hid (logU zs ≠ zs.length) := lg_torn hjl (by omega)
        have HC : Hid (Calls Try.prog 74 #[.slice da (from' zs j).length dc] wr fun e w' => Panicked e ∧ Below wr.heap.size wr w') := nextRecord_bad (from' zs j) da dc wr hlm hdc hdm hRw (from_bd HZ.out j) (by rw [hjl]; exact lg_no zs)
        clear hRw hR hfl
        generalize (from' zs j).length = L at HC h0 hlm hdc ⊢
        have hL0 : (0 : Int) < (L : Int) := by omega
        go_wp2_with fail
        refine HC.out.mono ?_
        rintro e w2 ⟨⟨pv, rfl⟩, g2⟩
        have g := g.trans (g2.mono g.size)
        clear g2 HC
        go_wp2_with fail
        exact ⟨rfl, fun h => absurd h HE.out, fun _ => ⟨_, rfl⟩, g⟩

end Go.Proofs.Ytcjkjenebnodbaa

/-
  The model's l5Read: the records that stand one behind the other.
-/
namespace Go.Proofs.Ytcjkjenebnodbaa
open Go.RowKit
set_option linter.unusedVariables false

/-- The i-th record of zs. -/
def lgR (zs : List Int) (i : Nat) : Rc := ⟨kR (from' zs i) 1, kR (from' zs i) 2, kR (from' zs i) 3, nR (from' zs i), rP (from' zs i), rZ (from' zs i)⟩

theorem info36' : (Try.prog.info? 36).map (fun i => (i.zero, i.size, i.bytes)) = some (some (.agg #[.int .i64 0, .int .i64 0, .int .i64 0, .slice none 0 0]), 4, 48) := by kernel_rfl
theorem info36 : ∃ i, Try.prog.info? 36 = some i ∧ i.zero = some (.agg #[.int .i64 0, .int .i64 0, .int .i64 0, .slice none 0 0]) ∧ i.size = 4 ∧ i.bytes = 48 := by
  have h := info36'
  cases hi : Try.prog.info? 36 with
  | none => rw [hi] at h; simp at h
  | some i => rw [hi] at h; simp at h; exact ⟨i, rfl, h.1, h.2.1, h.2.2⟩

theorem Rlt.lit (n₀ : Nat) (W : World) (R : Nat → Rc) (D : Nat → Ad) (h : n₀ ≤ W.heap.size) : Rlt n₀ (W.alloc (.cells #[] 36)) (.slice (some ⟨W.heap.size, 0, none⟩) 0 0) 0 R D :=
  ⟨World.ownsRow_lit (base := n₀) (e := 36) (size := 4) W #[] 0 h (by unfold maxLen; omega) rfl, fun i hi => absurd hi (Nat.not_lt_zero _), fun i hi => absurd hi (Nat.not_lt_zero _), fun i j _ hi => absurd hi (Nat.not_lt_zero _)⟩

/-- What l5Read hands back. -/
def L5Post (w : World) (zs : List Int) (e : Ending) (w' : World) : Prop := ∃ v D, e = .returned (.tuple #[v, .int .i64 (logU zs)]) ∧ Below w.heap.size w w' ∧ Rlt w.heap.size w' v (lgN zs) (lgR zs) D

set_option maxHeartbeats 2000000 in
theorem l5Read_any (zs : List Int) (a : Option Addr) (cap : Nat) (w : World) (hm : zs.length ≤ 1048576) (hcap : zs.length ≤ cap) (hcm : cap ≤ 9223372036854775807) (hf : Reads w a zs) (hz : ∀ z ∈ zs, 0 ≤ z ∧ z ≤ 255) :
    Calls Try.prog 89 #[.slice a zs.length cap] w fun e w' => L5Post w zs e w' := by
  obtain ⟨i6, hi6, hz60, hz61, hz62⟩ := info36
  have HZ : Hid (∀ z ∈ zs, 0 ≤ z ∧ z ≤ 255) := hz
  have HF : Hid (Reads w a zs) := hf
  clear hz hf
  have hR0 := Rlt.lit w.heap.size w (lgR zs) (fun _ => ⟨none, 0, fun _ => none, fun _ => 0, fun _ => 0, 0, 0⟩) (Nat.le_refl _)
  go_enter Try.func89, Try.ntmps89
  go_upto_region 3 with (fail)
  have g0 : Below w.heap.size w (w.alloc (.cells #[] 36)) := by go_grown
  generalize w.alloc (.cells #[] 36) = Y0 at hR0 g0 ⊢
  go_loopw [4, 5] (fun v i wr => ∃ (j : Nat) (D : Nat → Ad), j ≤ lgN zs ∧ i = .int .i64 (lp zs j) ∧ Rlt w.heap.size wr v j (lgR zs) D ∧ Below w.heap.size w wr) (fun _ i _ => zs.length - (intOf i).toNat)
  case atStart => exact ⟨0, _, Nat.zero_le _, rfl, hR0, g0⟩
  case round =>
    obtain ⟨j, D, hj, rfl, hR, g⟩ := hrel
    clear hR0 g0
    have hpl := (lp_le zs j hj).2
    have hfl := from_len zs j
    by_cases h0 : lp zs j = zs.length
    · have HE : Hid (j = lgN zs ∧ logU zs = zs.length) := lg_full hj h0
      rw [h0]
      clear hfl h0 hpl
      go_wp2_with fail
      go_ret2
      exact ⟨_, D, by rw [HE.out.2]; rfl, g, by rw [← HE.out.1]; exact hR⟩
    · have hlt : lp zs j < zs.length := by omega
      obtain ⟨b, off, ha, hc⟩ : ∃ b off, a = some ⟨b, off, none⟩ ∧ ∀ i, i < zs.length → w.cell? ⟨b, off + i, none⟩ = some (.int .u8 (zs.getD i 0)) := by
        rcases HF.out with h | ⟨b, off, h, hc⟩
        · rw [h] at hlt; simp at hlt
        · exact ⟨b, off, h, hc⟩
      subst ha
      have hRd : Reads wr (some ⟨b, off + lp zs j, none⟩) (from' zs j) := Reads.below (w := w) (.inr ⟨b, off + lp zs j, rfl, fun i hi => by
        have h1 := hc (lp zs j + i) (by omega)
        rw [← Nat.add_assoc] at h1
        rw [h1]
        unfold from'
        simp only [List.getD, List.getElem?_drop]⟩) g (Nat.le_refl _)
      have HC : Hid (Calls Try.prog 41 #[.slice (some ⟨b, off + lp zs j, none⟩) (zs.length - lp zs j) (cap - lp zs j)] wr fun e w' => RRPost wr (from' zs j) e w') := by
        show Calls _ _ _ _ _
        rw [← hfl]
        exact specReadRecord_any (from' zs j) _ _ wr (by omega) (by omega) (by omega) hRd (from_bd HZ.out j)
      have HRk : Hid ((lgR zs j).k = kR (from' zs j) 1 ∧ (lgR zs j).t = kR (from' zs j) 2 ∧ (lgR zs j).g = kR (from' zs j) 3 ∧ (lgR zs j).n = nR (from' zs j) ∧ (lgR zs j).P = rP (from' zs j) ∧ (lgR zs j).Z = rZ (from' zs j)) := ⟨rfl, rfl, rfl, rfl, rfl, rfl⟩
      clear hc hRd
      have hl1 : ((lp zs j : Nat) : Int) < (zs.length : Int) := by omega
      have hne : ¬ cap = lp zs j := by omega
      have hlc : ((lp zs j : Nat) : Int) ≤ (zs.length : Int) := by omega
      by_cases hok : j < lgN zs
      · obtain ⟨hu1, hu7, hul⟩ := uR_from zs j hok
        have hq := (rr_yes (lg_ok zs j hok)).1
        have HPo : Hid (∀ e w', RRPost wr (from' zs j) e w' → ∃ a c A C F, e = .returned (.agg #[.int .i64 0, .int .i64 (uR (from' zs j)), .int .i64 (lgR zs j).k, .int .i64 (lgR zs j).t, .int .i64 (lgR zs j).g, .slice a (lgR zs j).n c]) ∧ Below wr.heap.size wr w' ∧ OwnS wr.heap.size w'.heap.size w' a (lgR zs j).n (lgR zs j).P A C (lgR zs j).Z F) := fun e w' h => by unfold RRPost at h; rw [hq] at h; exact h
        have HU : Hid (lp zs (j + 1) = lp zs j + uR (from' zs j)) := hu1
        clear hq hu1 HRk
        generalize uR (from' zs j) = u at HPo HU hu7 hul
        generalize hp0 : lp zs j = p0 at HC HU hl1 hne hlc hfl hpl hlt ⊢
        clear hp0
        go_wp2_with fail
        refine HC.out.mono ?_
        intro e w2 hp
        obtain ⟨a2, d2, A2, C2, F2, rfl, g2, y2⟩ := HPo.out _ _ hp
        clear hp HC HPo
        have hR2 := hR.below g2
        have hrs := World.ownsRow.lt hR.row
        have hfr : ∀ i, i < j → (D i).hi ≤ wr.heap.size := fun i hi => (hR.fr i hi).2.2.1
        have gA := g.trans (g2.mono g.size)
        have hs1 := g.size
        have hs2 := g2.size
        have HRS : Hid (∀ g', _ → g' < wr.heap.size) := fun g' e => (hrs g' e).2
        clear hR g2 g hrs
        go_upto_region 5 with (fail)
        generalize hY2 : World.alloc w2 _ = Y2
        have gY : Below w2.heap.size w2 Y2 := by rw [← hY2]; go_grown
        have r2 : R6 Y2 w2.heap.size 0 u (lgR zs j).k (lgR zs j).t (lgR zs j).g a2 (lgR zs j).n d2 := by rw [← hY2]; exact ⟨by simp [go_sem], by simp [go_sem], by simp [go_sem], by simp [go_sem], by simp [go_sem], by simp [go_sem]⟩
        have hR2 := hR2.below gY
        have hOn : RunsAt Y2 (lgR zs j) ⟨a2, d2, A2, C2, F2, wr.heap.size, w2.heap.size⟩ := OwnS.below y2 gY
        have gA := gA.trans (gY.mono gA.size)
        have hs3 := gY.size
        have hb2 : w2.heap.size < Y2.heap.size := World.block_lt_of_cell? Y2 _ r2.c0
        clear hY2 gY y2
        generalize w2.heap.size = b2 at r2 hOn hs2 hs3 hb2 ⊢
        obtain ⟨p1, p2, p3, p4, p5, p6⟩ := r2
        go_upto_region 6 with (fail)
        have gb : Below Y2.heap.size Y2 (Y2.alloc (.cells #[.int .i64 (lgR zs j).k, .int .i64 (lgR zs j).t, .int .i64 (lgR zs j).g, .slice a2 (lgR zs j).n d2] 36)) := by go_grown
        have hR8 := hR2.below gb
        have hO8 := hOn.below gb
        have gA8 := gA.trans (gb.mono gA.size)
        have p28 := (gb.cell (World.block_lt_of_cell? Y2 _ p2)).trans p2
        have hjs : j ≤ 1048576 := by have := lgN_le zs; omega
        go_wp2_with (at_builtin; refine wpList_append_own_at _ rfl _ _ 24 rfl w.heap.size 36 i6 (.agg #[.int .i64 0, .int .i64 0, .int .i64 0, .slice none 0 0]) 4 48 Try.underlying24 hi6 hz60 hz61 hz62 rfl (by decide) _ _ _ rfl hR8.row ⟨Y2.heap.size, 0, none⟩ 1 1 [.int .i64 (lgR zs j).k, .int .i64 (lgR zs j).t, .int .i64 (lgR zs j).g, .slice a2 (lgR zs j).n d2] rfl rfl ?n1 ?n2 ?n3 ?n4 ?n5 ?_)
        case n1 =>
          intro i u hu
          match i, hu with
          | 0, hu => simp at hu; subst hu; simp [go_sem, Addr.add]
          | 1, hu => simp at hu; subst hu; simp [go_sem, Addr.add]
          | 2, hu => simp at hu; subst hu; simp [go_sem, Addr.add]
          | 3, hu => simp at hu; subst hu; simp [go_sem, Addr.add]
        case n2 =>
          intro u hu
          simp at hu
          rcases hu with rfl | rfl | rfl | rfl <;> rfl
        case n3 => unfold maxLen; omega
        case n4 => omega
        case n5 => simp; omega
        intro v' w9 hown' hgrow _ hat
        have hR9 := hR8.add (v' := v') hO8 hfr (by simp only; omega) (by simp only; omega) (by simp; omega) HRS.out hown' hgrow (hat.imp id (fun h => h.trans (by simp)))
        have g9 : Below w.heap.size w w9 := Below.grown gA8 hgrow (by simp; omega) (fun q e => (World.ownsRow.lt hR8.row q e).1)
        have p29 := (World.cell?_of_block (a := ⟨b2, 1, none⟩) (hgrow.block b2 (by simp; omega) (fun e => by have := HRS.out b2 e.symm; omega))).trans p28
        clear hown' hgrow hat hR8 hO8 gA8 p28 gb hR2 hOn p1 p2 p3 p4 p5 p6 gA
        go_wp2_with fail
        go_roundw
        case rel => exact ⟨j + 1, _, by omega, by rw [HU.out]; go_num, hR9, g9⟩
        case measure => simp [intOf]; omega
      · have HE : Hid (j = lgN zs) := by show _ = _; omega
        have HPo : Hid (∀ e w', RRPost wr (from' zs j) e w' → ∃ a c, e = .returned (.agg #[.int .i64 5, .int .i64 0, .int .i64 0, .int .i64 0, .int .i64 0, .slice a 0 c]) ∧ Below wr.heap.size wr w') := fun e w' h => by
          obtain ⟨e0, e1, e2, e3, e4, e5⟩ := rr_no (zs := from' zs j) (by rw [HE.out]; exact lg_no zs)
          obtain ⟨a, c, A, C, F, h1, h2, h3⟩ := h
          rw [e0, e1, e2, e3, e4, e5] at h1
          exact ⟨a, c, h1, h2⟩
        have HU : Hid (logU zs = lp zs j) := by show _ = _; rw [HE.out]; rfl
        clear hok HRk
        generalize hp0 : lp zs j = p0 at HC HU hl1 hne hlc hfl hpl hlt ⊢
        clear hp0
        go_wp2_with fail
        refine HC.out.mono ?_
        intro e w2 hp
        obtain ⟨a2, d2, rfl, g2⟩ := HPo.out _ _ hp
        clear hp HC HPo
        have hR2 := hR.below g2
        have gA := g.trans (g2.mono g.size)
        clear hR g2 g
        go_upto_region 5 with (fail)
        generalize hY2 : World.alloc w2 _ = Y2
        have gY : Below w2.heap.size w2 Y2 := by rw [← hY2]; go_grown
        have r2 : R6 Y2 w2.heap.size 5 0 0 0 0 a2 0 d2 := by rw [← hY2]; exact ⟨by simp [go_sem], by simp [go_sem], by simp [go_sem], by simp [go_sem], by simp [go_sem], by simp [go_sem]⟩
        have hR2 := hR2.below gY
        have gA := gA.trans (gY.mono gA.size)
        clear hY2 gY
        generalize w2.heap.size = b2 at r2 ⊢
        obtain ⟨p1, p2, p3, p4, p5, p6⟩ := r2
        go_wp2_with fail
        go_ret2
        exact ⟨_, D, by rw [HU.out]; rfl, gA, by rw [← HE.out]; exact hR2⟩

end Go.Proofs.Ytcjkjenebnodbaa
