/-
  Both FindRow.
-/
import Derived.Test.YtdgonddimenmdaaGreatQMfa

namespace Go.Proofs.YtdgonddimenmdaaGreat
open Go.RowKit Go.Maps
set_option linter.unusedVariables false

def fnd (ps : List (List Int)) (t k : Int) : Option Plc := (seenL ps).find? (fun y => decide (y.r.t = t) && decide (y.r.k = k))
def rp (q : Int) : Plc := ⟨q, 0, 0, ⟨0, 0, 0, ⟨#[]⟩⟩⟩
/-- What FindRow answers. -/
def findR (ps : List (List Int)) (t k : Int) : Plc := if viewQ ps = 0 then (if (inR t 0 3 && inR k 1 99) = true then (fnd ps t k).getD (rp 4) else rp 3) else rp (viewQ ps)

theorem fnd_kv {ps : List (List Int)} (hd : ((seenKV ps).map (·.1)).Nodup) (t k : Int) : kvF (seenKV ps) t k = (fnd ps t k).map plV := by
  cases hf : fnd ps t k with
  | some y =>
    unfold fnd at hf
    have h1 := List.mem_of_find?_eq_some hf
    have h2 := List.find?_some hf
    simp at h2
    have : ((t, k), plV y) ∈ seenKV ps := List.mem_map.2 ⟨y, h1, by unfold plK; rw [h2.1, h2.2]⟩
    rw [kvF_mem hd this]
    rfl
  | none =>
    cases hv : kvF (seenKV ps) t k with
    | none => rfl
    | some v =>
      have h1 := kvF_at hv
      obtain ⟨y, hy, e⟩ := List.mem_map.1 h1
      unfold plK at e
      simp only [Prod.mk.injEq] at e
      unfold fnd at hf
      have := List.find?_eq_none.1 hf y hy
      simp [e.1.1, e.1.2] at this

theorem viewQ_nodup {ps : List (List Int)} (h : viewQ ps = 0) : allQ ps = 0 ∧ stubQ ps = 0 ∧ ((seenKV ps).map (·.1)).Nodup := by
  unfold viewQ at h
  split at h
  · rename_i h1
    split at h
    · rename_i h2
      split at h
      · rename_i h3; exact ⟨h1, h2, h3⟩
      · simp at h
    · rename_i h2; exact absurd h h2
  · rename_i h1; exact absurd h h1

theorem inR_small {t k : Int} (h : (inR t 0 3 && inR k 1 99) = true) : small t ∧ small k := by
  unfold inR at h
  simp at h
  exact ⟨⟨by omega, by omega⟩, ⟨by omega, by omega⟩⟩

set_option maxHeartbeats 400000 in
theorem isKey_any (t k : Int) (w : World) : Calls Tryz.prog 21 #[.agg #[.int .i64 t, .int .i64 k]] w fun e w' => e = .returned (.bool (inR t 0 3 && inR k 1 99)) ∧ Below w.heap.size w w' := by
  cases h1 : inR t 0 3
  · go_enter Tryz.func21, Tryz.ntmps21
    go_wp2_with (go_at_call 51; refine (isWithin_any _ _ _ _).mono ?_; rintro e w' ⟨rfl, rfl⟩; rw [h1])
    go_ret
    exact ⟨rfl, by go_grown⟩
  · cases h2 : inR k 1 99
    · go_enter Tryz.func21, Tryz.ntmps21
      go_wp2_with (go_at_call 51; refine (isWithin_any _ _ _ _).mono ?_; rintro e w' ⟨rfl, rfl⟩; first | rw [h1] | rw [h2])
      go_ret
      exact ⟨rfl, by go_grown⟩
    · go_enter Tryz.func21, Tryz.ntmps21
      go_wp2_with (go_at_call 51; refine (isWithin_any _ _ _ _).mono ?_; rintro e w' ⟨rfl, rfl⟩; first | rw [h1] | rw [h2])
      go_ret
      exact ⟨rfl, by go_grown⟩

/-- Block b holds a zero answer that may be written. -/
structure PlO (w : World) (b : Nat) : Prop where
  c0 : w.cell? ⟨b, 0, none⟩ = some (.int .i64 0)
  c1 : w.cell? ⟨b, 1, none⟩ = some (.int .i64 0)
  c2 : w.cell? ⟨b, 2, none⟩ = some (.int .i64 0)
  c3 : w.cell? ⟨b, 3, none⟩ = some (.int .i64 0)
  c4 : w.cell? ⟨b, 4, none⟩ = some (.int .i64 0)
  c5 : w.cell? ⟨b, 5, none⟩ = some (.int .i64 0)
  c6 : w.cell? ⟨b, 6, none⟩ = some (.string ⟨#[]⟩)
  f0 : w.frozen? ⟨b, 0, none⟩ = false
  f1 : w.frozen? ⟨b, 1, none⟩ = false
  f2 : w.frozen? ⟨b, 2, none⟩ = false
  f3 : w.frozen? ⟨b, 3, none⟩ = false
  f4 : w.frozen? ⟨b, 4, none⟩ = false
  f5 : w.frozen? ⟨b, 5, none⟩ = false
  f6 : w.frozen? ⟨b, 6, none⟩ = false
theorem PlO.below {w w' : World} {b : Nat} (h : PlO w b) (hb : Below w.heap.size w w') : PlO w' b :=
  have hl := World.block_lt_of_cell? w _ h.c0
  have up : ∀ (p : Nat) (v : Value), w.cell? ⟨b, p, none⟩ = some v → w'.cell? ⟨b, p, none⟩ = some v := fun p v h => (hb.cell (p := ⟨b, p, none⟩) hl).trans h
  have fz : ∀ (p : Nat), w.frozen? ⟨b, p, none⟩ = false → w'.frozen? ⟨b, p, none⟩ = false := fun p h => (hb.frozen (p := ⟨b, p, none⟩) hl).trans h
  ⟨up _ _ h.c0, up _ _ h.c1, up _ _ h.c2, up _ _ h.c3, up _ _ h.c4, up _ _ h.c5, up _ _ h.c6, fz _ h.f0, fz _ h.f1, fz _ h.f2, fz _ h.f3, fz _ h.f4, fz _ h.f5, fz _ h.f6⟩
theorem PlO.new (w : World) : PlO (w.alloc (.cells #[.int .i64 0, .int .i64 0, .int .i64 0, .int .i64 0, .int .i64 0, .int .i64 0, .string ⟨#[]⟩] 34)) w.heap.size :=
  ⟨by simp [go_sem], by simp [go_sem], by simp [go_sem], by simp [go_sem], by simp [go_sem], by simp [go_sem], by simp [go_sem], by simp [go_sem], by simp [go_sem], by simp [go_sem], by simp [go_sem], by simp [go_sem], by simp [go_sem], by simp [go_sem]⟩

set_option maxRecDepth 20000 in
set_option maxHeartbeats 4000000 in
theorem implFindRow_any (a : Option Addr) (ps : List (List Int)) (n c : Nat) (t k : Int) (w : World) (hn : ps.length = n) (hm : n ≤ 9223372036854775807) (hp : PgOk ps) (hr : PgRead w a ps) :
    Calls Tryz.prog 9 #[.slice a n c, .int .i64 t, .int .i64 k] w fun e w' => e = .returned (plV (findR ps t k)) ∧ Below w.heap.size w w' := by
  have hO := PlO.new w
  have gX : Below w.heap.size w (w.alloc (.cells #[.int .i64 0, .int .i64 0, .int .i64 0, .int .i64 0, .int .i64 0, .int .i64 0, .string ⟨#[]⟩] 34)) := by go_grown
  obtain ⟨X, hX0⟩ : ∃ X, w.alloc (.cells #[.int .i64 0, .int .i64 0, .int .i64 0, .int .i64 0, .int .i64 0, .int .i64 0, .string ⟨#[]⟩] 34) = X := ⟨_, rfl⟩
  rw [hX0] at hO gX
  have hr := hr.below gX (Nat.le_refl _)
  have HPo : Hid (∀ y ∈ seenL ps, y.q = 0) := fun y hy => (plF_ok (allL_ok hp).1 y hy).2.2.1
  go_enter Tryz.func9, Tryz.ntmps9
  go_wp2_with fail
  refine (viewOf_any a ps n c _ hn hm hp hr).mono ?_
  rintro e w1 ⟨m, rfl, g1, hv⟩
  have hO := hO.below g1
  have g := gX.trans (g1.mono gX.size)
  have HV : Hid (viewQ ps = 0 → ∃ b sz, m = some b ∧ MapK 52 w1 b (seenKV ps) sz) := hv
  clear hr g1 gX hX0 hp hv
  obtain ⟨q, hq⟩ : ∃ q, q = viewQ ps := ⟨_, rfl⟩
  have HQ : Hid (viewQ ps = q) := hq.symm
  rw [← hq]
  clear hq
  by_cases hq0 : q = 0
  · subst hq0
    obtain ⟨b, sz, rfl, hK⟩ := HV.out HQ.out
    have hnd := (viewQ_nodup HQ.out).2.2
    have HF := fnd_kv hnd t k
    clear HV hnd
    go_upto_region 5 with (fail)
    generalize hY : World.alloc _ _ = Y
    have gY : Below w1.heap.size w1 Y := by rw [← hY]; go_grown
    have k0 : Y.cell? ⟨w1.heap.size, 0, none⟩ = some (.int .i64 t) := by rw [← hY]; simp [go_sem]
    have k1 : Y.cell? ⟨w1.heap.size, 1, none⟩ = some (.int .i64 k) := by rw [← hY]; simp [go_sem]
    have hO := hO.below gY
    have hK := hK.below gY
    have g := g.trans (gY.mono g.size)
    clear hY gY
    generalize w1.heap.size = kb at k0 k1 ⊢
    have hkb := World.block_lt_of_cell? _ _ k0
    dsimp only at hkb
    go_wp2_with fail
    refine (isKey_any t k _).mono ?_
    rintro e w2 ⟨rfl, g2⟩
    have hO := hO.below g2
    have hK := hK.below g2
    have k0 := (g2.cell (p := ⟨kb, 0, none⟩) hkb).trans k0
    have k1 := (g2.cell (p := ⟨kb, 1, none⟩) hkb).trans k1
    have g := g.trans (g2.mono g.size)
    clear g2
    cases hk : (inR t 0 3 && inR k 1 99)
    · have HR : Hid (findR ps t k = rp 3) := by show _ = _; unfold findR; rw [if_pos HQ.out, hk]; rfl
      clear hk k0 k1 HF hK
      obtain ⟨c0, c1, c2, c3, c4, c5, c6, f0, f1, f2, f3, f4, f5, f6⟩ := hO
      go_wp2_with fail
      refine bodyPost_ret (v := .agg #[.int .i64 3, .int .i64 0, .int .i64 0, .int .i64 0, .int .i64 0, .int .i64 0, .string ⟨#[]⟩]) (by simp [results, Tryz.results9, go_sem, *]) rfl ?_
      exact ⟨by rw [HR.out]; rfl, by go_grown⟩
    · have HR : Hid (findR ps t k = (fnd ps t k).getD (rp 4)) := by show _ = _; unfold findR; rw [if_pos HQ.out, hk, if_pos rfl]
      obtain ⟨st, sk⟩ := inR_small hk
      have hl := hK.1.look_ok keyT73 Tryz.underlying46 (Tryz.zeroValue34 _) (kw_small st sk)
      rw [HF] at hl
      simp only [kv] at hl
      have hqy : ∀ y, fnd ps t k = some y → y.q = 0 := fun y hy => HPo.out y (List.mem_of_find?_eq_some hy)
      have hgs := g.size
      clear hk HF hK
      cases hf : fnd ps t k with
      | none =>
        rw [hf] at hl HR
        simp only [Option.map_none, Option.getD_none, Option.isSome_none] at hl HR
        clear hf hqy
        go_upto_region 8 with (fail)
        generalize hY3 : World.alloc _ _ = Y3
        have gY3 : Below w2.heap.size w2 Y3 := by rw [← hY3]; go_grown
        have hO := hO.below gY3
        have g := g.trans (gY3.mono g.size)
        clear hY3 gY3 k0 k1 hl
        obtain ⟨c0, c1, c2, c3, c4, c5, c6, f0, f1, f2, f3, f4, f5, f6⟩ := hO
        go_wp2_with fail
        refine bodyPost_ret (v := .agg #[.int .i64 4, .int .i64 0, .int .i64 0, .int .i64 0, .int .i64 0, .int .i64 0, .string ⟨#[]⟩]) (by simp [results, Tryz.results9, go_sem, *]) rfl ?_
        exact ⟨by rw [HR.out]; rfl, by go_grown⟩
      | some y =>
        rw [hf] at hl HR
        simp only [Option.map_some, Option.getD_some, Option.isSome_some] at hl HR
        clear hf hqy
        obtain ⟨yq, yp, ys, yt, yk, yv, yst⟩ := y
        simp only [plV] at hl
        have HR2 : Hid (plV (findR ps t k) = .agg #[.int .i64 yq, .int .i64 yp, .int .i64 ys, .int .i64 yt, .int .i64 yk, .int .i64 yv, .string yst]) := by show _ = _; rw [HR.out]; rfl
        go_upto_region 8 with (fail)
        generalize hY3 : World.alloc _ _ = Y3
        have gY3 : Below w2.heap.size w2 Y3 := by rw [← hY3]; go_grown
        have C : PlC Y3 w2.heap.size 0 ⟨yq, yp, ys, ⟨yt, yk, yv, yst⟩⟩ := by rw [← hY3]; exact ⟨by simp [go_sem], by simp [go_sem], by simp [go_sem], by simp [go_sem], by simp [go_sem], by simp [go_sem], by simp [go_sem]⟩
        have hO := hO.below gY3
        have g := g.trans (gY3.mono g.size)
        clear hY3 gY3 k0 k1 hl
        generalize w2.heap.size = yb at C ⊢
        obtain ⟨d0, d1, d2, d3, d4, d5, d6⟩ := C
        dsimp only at d0 d1 d2 d3 d4 d5 d6
        obtain ⟨c0, c1, c2, c3, c4, c5, c6, f0, f1, f2, f3, f4, f5, f6⟩ := hO
        go_wp2_with fail
        refine bodyPost_ret (v := .agg #[.int .i64 yq, .int .i64 yp, .int .i64 ys, .int .i64 yt, .int .i64 yk, .int .i64 yv, .string yst]) (by simp [results, Tryz.results9, go_sem, *]) rfl ?_
        exact ⟨by rw [HR2.out], by go_grown⟩
  · have HR : Hid (findR ps t k = rp q) := by show _ = _; unfold findR; rw [if_neg (by rw [HQ.out]; exact hq0), HQ.out]
    have d : (q != 0) = true := by simpa using hq0
    obtain ⟨c0, c1, c2, c3, c4, c5, c6, f0, f1, f2, f3, f4, f5, f6⟩ := hO
    go_wp2_with fail
    refine bodyPost_ret (v := .agg #[.int .i64 q, .int .i64 0, .int .i64 0, .int .i64 0, .int .i64 0, .int .i64 0, .string ⟨#[]⟩]) (by simp [results, Tryz.results9, go_sem, *]) rfl ?_
    exact ⟨by rw [HR.out]; rfl, by go_grown⟩

end Go.Proofs.YtdgonddimenmdaaGreat
