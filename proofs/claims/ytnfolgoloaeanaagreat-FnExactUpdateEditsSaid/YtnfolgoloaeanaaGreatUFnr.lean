/-
  Both FindRow.
-/
import Derived.Test.YtnfolgoloaeanaaGreatUMfa
import Derived.Test.YtnfolgoloaeanaaGreatUDrf
import Derived.Test.YtnfolgoloaeanaaGreatUMae
import Derived.Test.YtnfolgoloaeanaaGreatULtu
import Derived.Test.YtnfolgoloaeanaaGreatULpu

namespace Go.Proofs.YtnfolgoloaeanaaGreat
open Go.RowKit Go.Maps
set_option linter.unusedVariables false

def fnd (ps : List (List Int)) (t k : Int) : Option Plc := (seenL ps).find? (fun y => decide (y.r.t = t) && decide (y.r.k = k))
def rp (q : Int) : Plc := ⟨q, 0, 0, ⟨0, 0, 0, ⟨#[]⟩⟩⟩
/-- What FindRow answers. -/
def findR (ps : List (List Int)) (t k : Int) : Plc := if viewQ ps = 0 then (if (inR t 0 3 && inR k 1 99) = true then (fnd ps t k).getD (rp 4) else rp 3) else rp (viewQ ps)

theorem fnd_kv {ps : List (List Int)} (hd : ((seenKV ps).map (·.1)).Nodup) (t k : Int) : kvF (seenKV ps) t k = (fnd ps t k).map plV := by
  cases hf : fnd ps t k with
  | some y =>
    unfold fnd at hf
    have h1 := List.mem_of_find?_eq_some hf
    have h2 := List.find?_some hf
    simp at h2
    have : ((t, k), plV y) ∈ seenKV ps := List.mem_map.2 ⟨y, h1, by unfold plK; rw [h2.1, h2.2]⟩
    rw [kvF_mem hd this]
    rfl
  | none =>
    cases hv : kvF (seenKV ps) t k with
    | none => rfl
    | some v =>
      have h1 := kvF_at hv
      obtain ⟨y, hy, e⟩ := List.mem_map.1 h1
      unfold plK at e
      simp only [Prod.mk.injEq] at e
      unfold fnd at hf
      have := List.find?_eq_none.1 hf y hy
      simp [e.1.1, e.1.2] at this

theorem viewQ_nodup {ps : List (List Int)} (h : viewQ ps = 0) : allQ ps = 0 ∧ stubQ ps = 0 ∧ ((seenKV ps).map (·.1)).Nodup := by
  unfold viewQ at h
  split at h
  · rename_i h1
    split at h
    · rename_i h2
      split at h
      · rename_i h3; exact ⟨h1, h2, h3⟩
      · simp at h
    · rename_i h2; exact absurd h h2
  · rename_i h1; exact absurd h h1

theorem inR_small {t k : Int} (h : (inR t 0 3 && inR k 1 99) = true) : small t ∧ small k := by
  unfold inR at h
  simp at h
  exact ⟨⟨by omega, by omega⟩, ⟨by omega, by omega⟩⟩

set_option maxHeartbeats 400000 in
theorem isKey_any (t k : Int) (w : World) : Calls Tryz.prog 63 #[.agg #[.int .i64 t, .int .i64 k]] w fun e w' => e = .returned (.bool (inR t 0 3 && inR k 1 99)) ∧ Below w.heap.size w w' := by
  cases h1 : inR t 0 3
  · go_enter Tryz.func63, Tryz.ntmps63
    go_wp2_with (go_at_call 85; refine (isWithin_any _ _ _ _).mono ?_; rintro e w' ⟨rfl, rfl⟩; rw [h1])
    go_ret
    exact ⟨rfl, by go_grown⟩
  · cases h2 : inR k 1 99
    · go_enter Tryz.func63, Tryz.ntmps63
      go_wp2_with (go_at_call 85; refine (isWithin_any _ _ _ _).mono ?_; rintro e w' ⟨rfl, rfl⟩; first | rw [h1] | rw [h2])
      go_ret
      exact ⟨rfl, by go_grown⟩
    · go_enter Tryz.func63, Tryz.ntmps63
      go_wp2_with (go_at_call 85; refine (isWithin_any _ _ _ _).mono ?_; rintro e w' ⟨rfl, rfl⟩; first | rw [h1] | rw [h2])
      go_ret
      exact ⟨rfl, by go_grown⟩

/-- Block b holds a zero answer that may be written. -/
structure PlO (w : World) (b : Nat) : Prop where
  c0 : w.cell? ⟨b, 0, none⟩ = some (.int .i64 0)
  c1 : w.cell? ⟨b, 1, none⟩ = some (.int .i64 0)
  c2 : w.cell? ⟨b, 2, none⟩ = some (.int .i64 0)
  c3 : w.cell? ⟨b, 3, none⟩ = some (.int .i64 0)
  c4 : w.cell? ⟨b, 4, none⟩ = some (.int .i64 0)
  c5 : w.cell? ⟨b, 5, none⟩ = some (.int .i64 0)
  c6 : w.cell? ⟨b, 6, none⟩ = some (.string ⟨#[]⟩)
  f0 : w.frozen? ⟨b, 0, none⟩ = false
  f1 : w.frozen? ⟨b, 1, none⟩ = false
  f2 : w.frozen? ⟨b, 2, none⟩ = false
  f3 : w.frozen? ⟨b, 3, none⟩ = false
  f4 : w.frozen? ⟨b, 4, none⟩ = false
  f5 : w.frozen? ⟨b, 5, none⟩ = false
  f6 : w.frozen? ⟨b, 6, none⟩ = false
theorem PlO.below {w w' : World} {b : Nat} (h : PlO w b) (hb : Below w.heap.size w w') : PlO w' b :=
  have hl := World.block_lt_of_cell? w _ h.c0
  have up : ∀ (p : Nat) (v : Value), w.cell? ⟨b, p, none⟩ = some v → w'.cell? ⟨b, p, none⟩ = some v := fun p v h => (hb.cell (p := ⟨b, p, none⟩) hl).trans h
  have fz : ∀ (p : Nat), w.frozen? ⟨b, p, none⟩ = false → w'.frozen? ⟨b, p, none⟩ = false := fun p h => (hb.frozen (p := ⟨b, p, none⟩) hl).trans h
  ⟨up _ _ h.c0, up _ _ h.c1, up _ _ h.c2, up _ _ h.c3, up _ _ h.c4, up _ _ h.c5, up _ _ h.c6, fz _ h.f0, fz _ h.f1, fz _ h.f2, fz _ h.f3, fz _ h.f4, fz _ h.f5, fz _ h.f6⟩
theorem PlO.new (w : World) : PlO (w.alloc (.cells #[.int .i64 0, .int .i64 0, .int .i64 0, .int .i64 0, .int .i64 0, .int .i64 0, .string ⟨#[]⟩] 38)) w.heap.size :=
  ⟨by simp [go_sem], by simp [go_sem], by simp [go_sem], by simp [go_sem], by simp [go_sem], by simp [go_sem], by simp [go_sem], by simp [go_sem], by simp [go_sem], by simp [go_sem], by simp [go_sem], by simp [go_sem], by simp [go_sem], by simp [go_sem]⟩

set_option maxRecDepth 20000 in
set_option maxHeartbeats 4000000 in
theorem implFindRow_any (a : Option Addr) (ps : List (List Int)) (n c : Nat) (t k : Int) (w : World) (hn : ps.length = n) (hm : n ≤ 9223372036854775807) (hp : PgOk ps) (hr : PgRead w a ps) :
    Calls Tryz.prog 15 #[.slice a n c, .int .i64 t, .int .i64 k] w fun e w' => e = .returned (plV (findR ps t k)) ∧ Below w.heap.size w w' := by
  have hO := PlO.new w
  have gX : Below w.heap.size w (w.alloc (.cells #[.int .i64 0, .int .i64 0, .int .i64 0, .int .i64 0, .int .i64 0, .int .i64 0, .string ⟨#[]⟩] 38)) := by go_grown
  obtain ⟨X, hX0⟩ : ∃ X, w.alloc (.cells #[.int .i64 0, .int .i64 0, .int .i64 0, .int .i64 0, .int .i64 0, .int .i64 0, .string ⟨#[]⟩] 38) = X := ⟨_, rfl⟩
  rw [hX0] at hO gX
  have hr := hr.below gX (Nat.le_refl _)
  have HPo : Hid (∀ y ∈ seenL ps, y.q = 0) := fun y hy => (plF_ok (allL_ok hp).1 y hy).2.2.1
  go_enter Tryz.func15, Tryz.ntmps15
  go_wp2_with fail
  refine (viewOf_any a ps n c _ hn hm hp hr).mono ?_
  rintro e w1 ⟨m, rfl, g1, hv⟩
  have hO := hO.below g1
  have g := gX.trans (g1.mono gX.size)
  have HV : Hid (viewQ ps = 0 → ∃ b sz, m = some b ∧ MapK 105 w1 b (seenKV ps) sz) := hv
  clear hr g1 gX hX0 hp hv
  obtain ⟨q, hq⟩ : ∃ q, q = viewQ ps := ⟨_, rfl⟩
  have HQ : Hid (viewQ ps = q) := hq.symm
  rw [← hq]
  clear hq
  by_cases hq0 : q = 0
  · subst hq0
    obtain ⟨b, sz, rfl, hK⟩ := HV.out HQ.out
    have hnd := (viewQ_nodup HQ.out).2.2
    have HF := fnd_kv hnd t k
    clear HV hnd
    go_upto_region 5 with (fail)
    generalize hY : World.alloc _ _ = Y
    have gY : Below w1.heap.size w1 Y := by rw [← hY]; go_grown
    have k0 : Y.cell? ⟨w1.heap.size, 0, none⟩ = some (.int .i64 t) := by rw [← hY]; simp [go_sem]
    have k1 : Y.cell? ⟨w1.heap.size, 1, none⟩ = some (.int .i64 k) := by rw [← hY]; simp [go_sem]
    have hO := hO.below gY
    have hK := hK.below gY
    have g := g.trans (gY.mono g.size)
    clear hY gY
    generalize w1.heap.size = kb at k0 k1 ⊢
    have hkb := World.block_lt_of_cell? _ _ k0
    dsimp only at hkb
    go_wp2_with fail
    refine (isKey_any t k _).mono ?_
    rintro e w2 ⟨rfl, g2⟩
    have hO := hO.below g2
    have hK := hK.below g2
    have k0 := (g2.cell (p := ⟨kb, 0, none⟩) hkb).trans k0
    have k1 := (g2.cell (p := ⟨kb, 1, none⟩) hkb).trans k1
    have g := g.trans (g2.mono g.size)
    clear g2
    cases hk : (inR t 0 3 && inR k 1 99)
    · have HR : Hid (findR ps t k = rp 3) := by show _ = _; unfold findR; rw [if_pos HQ.out, hk]; rfl
      clear hk k0 k1 HF hK
      obtain ⟨c0, c1, c2, c3, c4, c5, c6, f0, f1, f2, f3, f4, f5, f6⟩ := hO
      go_wp2_with fail
      refine bodyPost_ret (v := .agg #[.int .i64 3, .int .i64 0, .int .i64 0, .int .i64 0, .int .i64 0, .int .i64 0, .string ⟨#[]⟩]) (by simp [results, Tryz.results15, go_sem, *]) rfl ?_
      exact ⟨by rw [HR.out]; rfl, by go_grown⟩
    · have HR : Hid (findR ps t k = (fnd ps t k).getD (rp 4)) := by show _ = _; unfold findR; rw [if_pos HQ.out, hk, if_pos rfl]
      obtain ⟨st, sk⟩ := inR_small hk
      have hl := hK.1.look_ok keyT73 Tryz.underlying99 (Tryz.zeroValue38 _) (kw_small st sk)
      rw [HF] at hl
      simp only [kv] at hl
      have hqy : ∀ y, fnd ps t k = some y → y.q = 0 := fun y hy => HPo.out y (List.mem_of_find?_eq_some hy)
      have hgs := g.size
      clear hk HF hK
      cases hf : fnd ps t k with
      | none =>
        rw [hf] at hl HR
        simp only [Option.map_none, Option.getD_none, Option.isSome_none] at hl HR
        clear hf hqy
        go_upto_region 8 with (fail)
        generalize hY3 : World.alloc _ _ = Y3
        have gY3 : Below w2.heap.size w2 Y3 := by rw [← hY3]; go_grown
        have hO := hO.below gY3
        have g := g.trans (gY3.mono g.size)
        clear hY3 gY3 k0 k1 hl
        obtain ⟨c0, c1, c2, c3, c4, c5, c6, f0, f1, f2, f3, f4, f5, f6⟩ := hO
        go_wp2_with fail
        refine bodyPost_ret (v := .agg #[.int .i64 4, .int .i64 0, .int .i64 0, .int .i64 0, .int .i64 0, .int .i64 0, .string ⟨#[]⟩]) (by simp [results, Tryz.results15, go_sem, *]) rfl ?_
        exact ⟨by rw [HR.out]; rfl, by go_grown⟩
      | some y =>
        rw [hf] at hl HR
        simp only [Option.map_some, Option.getD_some, Option.isSome_some] at hl HR
        clear hf hqy
        obtain ⟨yq, yp, ys, yt, yk, yv, yst⟩ := y
        simp only [plV] at hl
        have HR2 : Hid (plV (findR ps t k) = .agg #[.int .i64 yq, .int .i64 yp, .int .i64 ys, .int .i64 yt, .int .i64 yk, .int .i64 yv, .string yst]) := by show _ = _; rw [HR.out]; rfl
        go_upto_region 8 with (fail)
        generalize hY3 : World.alloc _ _ = Y3
        have gY3 : Below w2.heap.size w2 Y3 := by rw [← hY3]; go_grown
        have C : PlC Y3 w2.heap.size 0 ⟨yq, yp, ys, ⟨yt, yk, yv, yst⟩⟩ := by rw [← hY3]; exact ⟨by simp [go_sem], by simp [go_sem], by simp [go_sem], by simp [go_sem], by simp [go_sem], by simp [go_sem], by simp [go_sem]⟩
        have hO := hO.below gY3
        have g := g.trans (gY3.mono g.size)
        clear hY3 gY3 k0 k1 hl
        generalize w2.heap.size = yb at C ⊢
        obtain ⟨d0, d1, d2, d3, d4, d5, d6⟩ := C
        dsimp only at d0 d1 d2 d3 d4 d5 d6
        obtain ⟨c0, c1, c2, c3, c4, c5, c6, f0, f1, f2, f3, f4, f5, f6⟩ := hO
        go_wp2_with fail
        refine bodyPost_ret (v := .agg #[.int .i64 yq, .int .i64 yp, .int .i64 ys, .int .i64 yt, .int .i64 yk, .int .i64 yv, .string yst]) (by simp [results, Tryz.results15, go_sem, *]) rfl ?_
        exact ⟨by rw [HR2.out], by go_grown⟩
  · have HR : Hid (findR ps t k = rp q) := by show _ = _; unfold findR; rw [if_neg (by rw [HQ.out]; exact hq0), HQ.out]
    have d : (q != 0) = true := by simpa using hq0
    obtain ⟨c0, c1, c2, c3, c4, c5, c6, f0, f1, f2, f3, f4, f5, f6⟩ := hO
    go_wp2_with fail
    refine bodyPost_ret (v := .agg #[.int .i64 q, .int .i64 0, .int .i64 0, .int .i64 0, .int .i64 0, .int .i64 0, .string ⟨#[]⟩]) (by simp [results, Tryz.results15, go_sem, *]) rfl ?_
    exact ⟨by rw [HR.out]; rfl, by go_grown⟩

open Go.RowKit Go.Maps

structure SpO (w : World) (b : Nat) : Prop where
  c0 : w.cell? ⟨b, 0, none⟩ = some (.int .i64 0)
  c1 : w.cell? ⟨b, 1, none⟩ = some (.int .i64 0)
  c2 : w.cell? ⟨b, 2, none⟩ = some (.int .i64 0)
  c3 : w.cell? ⟨b, 3, none⟩ = some (.int .i64 0)
  c4 : w.cell? ⟨b, 4, none⟩ = some (.int .i64 0)
  c5 : w.cell? ⟨b, 5, none⟩ = some (.int .i64 0)
  c6 : w.cell? ⟨b, 6, none⟩ = some (.int .i64 0)
  c7 : w.cell? ⟨b, 7, none⟩ = some (.int .i64 0)
  c8 : w.cell? ⟨b, 8, none⟩ = some (.int .i64 0)
  c9 : w.cell? ⟨b, 9, none⟩ = some (.string ⟨#[]⟩)
  f0 : w.frozen? ⟨b, 0, none⟩ = false
  f1 : w.frozen? ⟨b, 1, none⟩ = false
  f2 : w.frozen? ⟨b, 2, none⟩ = false
  f3 : w.frozen? ⟨b, 3, none⟩ = false
  f4 : w.frozen? ⟨b, 4, none⟩ = false
  f5 : w.frozen? ⟨b, 5, none⟩ = false
  f6 : w.frozen? ⟨b, 6, none⟩ = false
  f7 : w.frozen? ⟨b, 7, none⟩ = false
  f8 : w.frozen? ⟨b, 8, none⟩ = false
  f9 : w.frozen? ⟨b, 9, none⟩ = false
theorem SpO.below {w w' : World} {b : Nat} (h : SpO w b) (hb : Below w.heap.size w w') : SpO w' b :=
  have hl := World.block_lt_of_cell? w _ h.c0
  have up : ∀ (p : Nat) (v : Value), w.cell? ⟨b, p, none⟩ = some v → w'.cell? ⟨b, p, none⟩ = some v := fun p v h => (hb.cell (p := ⟨b, p, none⟩) hl).trans h
  have fz : ∀ (p : Nat), w.frozen? ⟨b, p, none⟩ = false → w'.frozen? ⟨b, p, none⟩ = false := fun p h => (hb.frozen (p := ⟨b, p, none⟩) hl).trans h
  ⟨up _ _ h.c0, up _ _ h.c1, up _ _ h.c2, up _ _ h.c3, up _ _ h.c4, up _ _ h.c5, up _ _ h.c6, up _ _ h.c7, up _ _ h.c8, up _ _ h.c9, fz _ h.f0, fz _ h.f1, fz _ h.f2, fz _ h.f3, fz _ h.f4, fz _ h.f5, fz _ h.f6, fz _ h.f7, fz _ h.f8, fz _ h.f9⟩
theorem SpO.new (w : World) : SpO (w.alloc (.cells #[.int .i64 0, .int .i64 0, .int .i64 0, .int .i64 0, .int .i64 0, .int .i64 0, .int .i64 0, .int .i64 0, .int .i64 0, .string ⟨#[]⟩] 95)) w.heap.size :=
  ⟨by simp [go_sem], by simp [go_sem], by simp [go_sem], by simp [go_sem], by simp [go_sem], by simp [go_sem], by simp [go_sem], by simp [go_sem], by simp [go_sem], by simp [go_sem], by simp [go_sem], by simp [go_sem], by simp [go_sem], by simp [go_sem], by simp [go_sem], by simp [go_sem], by simp [go_sem], by simp [go_sem], by simp [go_sem], by simp [go_sem]⟩

def mtS (t k : Int) (x : Spt) : Bool := decide (x.c.t = t) && decide (x.c.k = k)
def fndS (zs : List Spt) (t k : Int) : Option Spt := zs.find? (mtS t k)
def zSp : Spt := ⟨0, 0, zC⟩
theorem fnd_fndS {ps : List (List Int)} (hp : PgOk ps) (t k : Int) : fnd ps t k = (fndS (snF (mvF (allL ps)) (allL ps)) t k).map toPl := by
  unfold fnd fndS seenL
  rw [← snF_pl (allL_ok hp).1, List.find?_map]
  rfl
theorem find_step {zs : List Spt} {j : Nat} {x : Spt} (hx : zs[j]? = some x) {f : Spt → Bool} : (zs.drop j).find? f = if f x = true then some x else (zs.drop (j + 1)).find? f := by
  rw [drop_cons hx, List.find?_cons]
  cases f x <;> rfl

set_option maxRecDepth 20000 in
set_option maxHeartbeats 4000000 in
theorem l6Find_any (a : Option Addr) (ps : List (List Int)) (n c : Nat) (t k : Int) (w : World) (hn : ps.length = n) (hm : n ≤ 12) (hp : PgOk ps) (hr : PgRead w a ps) (hq : pagesQ ps = 0) (hno : noneB (mvF (spotsOf 0 ps)) (spotsOf 0 ps) = false) :
    Calls Tryz.prog 59 #[.slice a n c, .int .i64 t, .int .i64 k] w fun e w' => e = .returned (.tuple #[.agg (spE ((fndS (snF (mvF (spotsOf 0 ps)) (spotsOf 0 ps)) t k).getD zSp)).toArray, .bool (fndS (snF (mvF (spotsOf 0 ps)) (spotsOf 0 ps)) t k).isSome]) ∧ Below w.heap.size w w' := by
  have hO := SpO.new w
  have gX : Below w.heap.size w (w.alloc (.cells #[.int .i64 0, .int .i64 0, .int .i64 0, .int .i64 0, .int .i64 0, .int .i64 0, .int .i64 0, .int .i64 0, .int .i64 0, .string ⟨#[]⟩] 95)) := by go_grown
  obtain ⟨X, hX0⟩ : ∃ X, w.alloc (.cells #[.int .i64 0, .int .i64 0, .int .i64 0, .int .i64 0, .int .i64 0, .int .i64 0, .int .i64 0, .int .i64 0, .int .i64 0, .string ⟨#[]⟩] 95) = X := ⟨_, rfl⟩
  rw [hX0] at hO gX
  have hsl := spotsOf_len ps 0 hp
  have hsn := snF_len (mvF (spotsOf 0 ps)) (spotsOf 0 ps)
  have HSn := l6Seen_any a ps n c X hn hm hp (hr.below gX (Nat.le_refl _)) hq hno
  generalize snF (mvF (spotsOf 0 ps)) (spotsOf 0 ps) = zs at HSn hsn ⊢
  obtain ⟨r, hr0⟩ : ∃ r, r = fndS zs t k := ⟨_, rfl⟩
  have HRs : Hid (fndS zs t k = r) := hr0.symm
  rw [← hr0]
  clear hr0 hr hq hno
  go_enter Tryz.func59, Tryz.ntmps59
  go_wp2_with fail
  refine HSn.mono ?_
  rintro e w1 ⟨v1, rfl, g1, o1⟩
  have hO := hO.below g1
  have g := gX.trans (g1.mono gX.size)
  obtain ⟨a1, c1, rfl, _, s1, _⟩ := SlIn.ofRow spE_len o1
  have HR : Hid (Rs spE 10 w1 a1 zs) := s1.reads
  clear s1 o1 g1 gX hX0 HSn
  obtain ⟨m, hm0⟩ : ∃ m, m = zs.length := ⟨_, rfl⟩
  have HM : Hid (zs.length = m) := hm0.symm
  have hm200 : m ≤ 200 := by omega
  rw [← hm0]
  clear hm0 hsl hsn
  go_wp2_with fail
  go_loopw [9] (fun i wr => ∃ j : Nat, j ≤ m ∧ i = .int .i64 j ∧ Hid (r = (zs.drop j).find? (mtS t k)) ∧ wr = w1) (fun i _ => m - (intOf i).toNat)
  case atStart => exact ⟨0, Nat.zero_le _, rfl, by rw [← HRs.out]; rfl, rfl⟩
  case round =>
    obtain ⟨j, hj, rfl, hf, rfl⟩ := hrel
    by_cases hlt : j < m
    · obtain ⟨x, hx⟩ := at_lt' (rs := zs) (i := j) (by rw [HM.out]; exact hlt)
      obtain ⟨b, off, rfl, X'⟩ := HR.out.spot hx
      have hjn : (j : Int) < (m : Int) := by omega
      have HF : Hid (r = if mtS t k x = true then some x else (zs.drop (j + 1)).find? (mtS t k)) := by show _ = _; rw [hf.out]; exact find_step hx
      clear hx hf
      obtain ⟨xp, xs', xq, xf, xcp, xcl, xct, xck, xcv, xcs⟩ := x
      obtain ⟨x0, x1, x2, x3, x4, x5, x6, x7, x8, x9⟩ := X'
      dsimp only at x0 x1 x2 x3 x4 x5 x6 x7 x8 x9
      by_cases h1 : xct = t
      · subst h1
        by_cases h2 : xck = k
        · subst h2
          have HF2 : Hid (r = some ⟨xp, xs', ⟨xq, xf, xcp, xcl, xct, xck, xcv, xcs⟩⟩) := by show _ = _; rw [HF.out, if_pos (by simp [mtS])]
          have HV : Hid ((spE (r.getD zSp)).toArray = #[.int .i64 xp, .int .i64 xs', .int .i64 xq, .int .i64 xf, .int .i64 xcp, .int .i64 xcl, .int .i64 xct, .int .i64 xck, .int .i64 xcv, .string xcs] ∧ r.isSome = true) := by rw [HF2.out]; exact ⟨rfl, rfl⟩
          obtain ⟨c0, c1, c2, c3, c4, c5, c6, c7, c8, c9, f0, f1, f2, f3, f4, f5, f6, f7, f8, f9⟩ := hO
          go_wp2_with fail
          refine bodyPost_ret (v := .tuple #[.agg #[.int .i64 xp, .int .i64 xs', .int .i64 xq, .int .i64 xf, .int .i64 xcp, .int .i64 xcl, .int .i64 xct, .int .i64 xck, .int .i64 xcv, .string xcs], .bool true]) (by simp [results, Tryz.results59, go_sem, *]) rfl ?_
          exact ⟨by rw [HV.out.1, HV.out.2], by go_grown⟩
        · have HF2 : Hid (r = (zs.drop (j + 1)).find? (mtS xct k)) := by show _ = _; rw [HF.out, if_neg (by simp [mtS, h2])]
          have d2 : (xck == k) = false := by simpa using h2
          go_wp2_with fail
          go_roundw
          case rel => exact ⟨j + 1, by omega, by go_num, HF2, by simp⟩
          case measure => simp [intOf]; omega
      · have HF2 : Hid (r = (zs.drop (j + 1)).find? (mtS t k)) := by show _ = _; rw [HF.out, if_neg (by simp [mtS, h1])]
        have d1 : (xct == t) = false := by simpa using h1
        go_wp2_with fail
        go_roundw
        case rel => exact ⟨j + 1, by omega, by go_num, HF2, by simp⟩
        case measure => simp [intOf]; omega
    · have e : j = m := by omega
      subst e
      have HF2 : Hid (r = none) := by show _ = _; rw [hf.out, List.drop_of_length_le (by rw [HM.out]; exact Nat.le_refl _)]; rfl
      have HV : Hid ((spE (r.getD zSp)).toArray = #[.int .i64 0, .int .i64 0, .int .i64 0, .int .i64 0, .int .i64 0, .int .i64 0, .int .i64 0, .int .i64 0, .int .i64 0, .string ⟨#[]⟩] ∧ r.isSome = false) := by rw [HF2.out]; exact ⟨rfl, rfl⟩
      obtain ⟨c0, c1, c2, c3, c4, c5, c6, c7, c8, c9, f0, f1, f2, f3, f4, f5, f6, f7, f8, f9⟩ := hO
      go_wp2_with fail
      refine bodyPost_ret (v := .tuple #[.agg #[.int .i64 0, .int .i64 0, .int .i64 0, .int .i64 0, .int .i64 0, .int .i64 0, .int .i64 0, .int .i64 0, .int .i64 0, .string ⟨#[]⟩], .bool false]) (by simp [results, Tryz.results59, go_sem, *]) rfl ?_
      exact ⟨by rw [HV.out.1, HV.out.2], by go_grown⟩

open Go.RowKit

/-- Page pn of ps is zs, without a fault, and its slot sn has a cell. -/
structure CelIn (ps : List (List Int)) (pn sn : Nat) (zs : List Int) : Prop where
  at' : ps[pn]? = some zs
  ok : Fine zs
  has : hasC zs sn = true
theorem CelIn.lt {ps : List (List Int)} {pn sn : Nat} {zs : List Int} (h : CelIn ps pn sn zs) : sn < nb zs 0 := ((hasC_iff sn).1 h.has).1
theorem CelIn.small {ps : List (List Int)} {pn sn : Nat} {zs : List Int} (h : CelIn ps pn sn zs) : sn < 16 := Nat.lt_of_lt_of_le h.lt h.ok.few
theorem CelIn.plt {ps : List (List Int)} {pn sn : Nat} {zs : List Int} (h : CelIn ps pn sn zs) : pn < ps.length := (List.getElem?_eq_some_iff.1 h.at').1

theorem spot_at {ps : List (List Int)} (hp : PgOk ps) (hq : pagesQ ps = 0) {x : Spt} (hx : x ∈ spotsOf 0 ps) : ∃ pn sn zs, CelIn ps pn sn zs ∧ x = ⟨(pn : Nat), (sn : Nat), unp (cellOf zs sn)⟩ := by
  obtain ⟨i, zs, s, h1, h2, h3, h4⟩ := (spotsOf_mem ps 0 x hp (pagesQ_zero hq)).1 hx
  have hm := List.mem_of_getElem? h1
  have hf := fine_of (hp zs hm).2 (pageC_fine (pagesQ_zero hq zs hm)).1
  exact ⟨i, s, zs, ⟨h1, hf, (hasC_iff s).2 ⟨h2, h3⟩⟩, by rw [h4, Nat.zero_add]⟩

/-- What is found: a row in its own cell, or a stub and the cell that it tells. -/
structure FndAt (ps : List (List Int)) (z : Spt) (pn sn : Nat) (zs : List Int) : Prop where
  c : CelIn ps pn sn zs
  p : z.p = (pn : Nat)
  s : z.s = (sn : Nat)
  q : (unp (cellOf zs sn)).q = 0
  f : (unp (cellOf zs sn)).f = z.c.f
  f2 : z.c.f = 0 ∨ z.c.f = 1
  tp : z.c.f = 1 → (unp (cellOf zs sn)).p = z.c.p ∧ (unp (cellOf zs sn)).l = z.c.l
  stub : z.c.f = 1 → ∃ pm sm ys, CelIn ps pm sm ys ∧ z.c.p = (pm : Nat) ∧ z.c.l = (sm : Nat) ∧ ¬ (pm = pn ∧ sm = sn)

theorem found_at {ps : List (List Int)} (hp : PgOk ps) (h12 : ps.length ≤ 12) (hq : pagesQ ps = 0) (hno : noneB (mvF (spotsOf 0 ps)) (spotsOf 0 ps) = false) {t k : Int} {z : Spt} (hz : fndS (snF (mvF (spotsOf 0 ps)) (spotsOf 0 ps)) t k = some z) : ∃ pn sn zs, FndAt ps z pn sn zs := by
  have hm := List.mem_of_find?_eq_some hz
  obtain ⟨x, hx, hzx⟩ := List.mem_flatMap.1 hm
  obtain ⟨pn, sn, zs, hc, hxe⟩ := spot_at hp hq hx
  have hok := spotsOf_ok ps 0 (by omega) hp x hx
  have hcx : x.c = unp (cellOf zs sn) := by rw [hxe]
  refine ⟨pn, sn, zs, ?_⟩
  unfold sn1 at hzx
  split at hzx
  · simp at hzx
  · rename_i h2
    split at hzx
    · rename_i h1
      simp at hzx
      have ht : ∃ v, mvF (spotsOf 0 ps) x.c.p x.c.l = some v := by
        cases hv : mvF (spotsOf 0 ps) x.c.p x.c.l with
        | some v => exact ⟨v, rfl⟩
        | none =>
          exfalso
          unfold noneB at hno
          rw [List.any_eq_false] at hno
          exact hno x hx (by simp [h1, hv])
      obtain ⟨v, hv⟩ := ht
      obtain ⟨y, hy, hy2, hyp, hys, _⟩ := mvF_at _ _ _ _ hv
      obtain ⟨pm, sm, ys, hcy, hye⟩ := spot_at hp hq hy
      have zf : z.c.f = 1 := by rw [hzx]; exact h1
      have zp : z.c.p = x.c.p := by rw [hzx]
      have zl : z.c.l = x.c.l := by rw [hzx]
      refine ⟨hc, by rw [hzx, hxe], by rw [hzx, hxe], by rw [← hcx]; exact hok.q, by rw [← hcx, zf, h1], .inr zf, fun _ => by rw [← hcx, zp, zl]; exact ⟨rfl, rfl⟩, fun _ => ⟨pm, sm, ys, hcy, by rw [zp, ← hyp, hye], by rw [zl, ← hys, hye], ?_⟩⟩
      rintro ⟨rfl, rfl⟩
      have e : zs = ys := by have := hc.at'.symm.trans hcy.at'; injection this
      subst e
      rw [hxe] at h1
      rw [hye] at hy2
      simp only at h1 hy2
      omega
    · rename_i h1
      simp at hzx
      subst hzx
      have hf0 : z.c.f = 0 := by rcases hok.f with h | h | h <;> omega
      exact ⟨hc, by rw [hxe], by rw [hxe], by rw [← hcx]; exact hok.q, by rw [hcx], .inl hf0, fun h => absurd h h1, fun h => absurd h h1⟩

/-- A cell is dropped: one edit more, and the page is another one. -/
def delOne (a : List (Int × List Int) × List (List Int)) (p s : Nat) : List (Int × List Int) × List (List Int) := (a.1 ++ [((p : Int), drpP (a.2.getD p []) s)], a.2.set p (drpP (a.2.getD p []) s))
def delR (ps : List (List Int)) (z : Spt) : List (Int × List Int) × List (List Int) := if z.c.f = 1 then delOne (delOne ([], ps) z.p.toNat z.s.toNat) z.c.p.toNat z.c.l.toNat else delOne ([], ps) z.p.toNat z.s.toNat

theorem FndAt.row {ps : List (List Int)} {z : Spt} {pn sn : Nat} {zs : List Int} (h : FndAt ps z pn sn zs) (hf : z.c.f = 0) : delR ps z = ([((pn : Int), drpP zs sn)], ps.set pn (drpP zs sn)) := by
  unfold delR
  rw [if_neg (by omega), h.p, h.s, Int.toNat_natCast, Int.toNat_natCast]
  simp [delOne, List.getD, h.c.at']

/-- What DeleteEdits finds, and what it answers. -/
def deZ (ps : List (List Int)) (t k : Int) : Option Spt := if viewQ ps = 0 then (if (inR t 0 3 && inR k 1 99) = true then fndS (snF (mvF (spotsOf 0 ps)) (spotsOf 0 ps)) t k else none) else none
def deQ (ps : List (List Int)) (t k : Int) : Int := (findR ps t k).q
theorem view_zero {ps : List (List Int)} (h : viewQ ps = 0) : ps.length ≤ 12 ∧ allQ ps = 0 ∧ pagesQ ps = 0 ∧ noneB (mvF (spotsOf 0 ps)) (spotsOf 0 ps) = false := by
  obtain ⟨h1, h2, _⟩ := viewQ_nodup h
  have h12 : ps.length ≤ 12 := by
    unfold allQ at h1
    split at h1
    · simp at h1
    · omega
  have hq : pagesQ ps = 0 := by
    unfold allQ at h1
    rw [if_neg (by omega)] at h1
    exact h1
  have h3 := stQ_zero h2
  rw [allL_spots h1] at h3
  exact ⟨h12, h1, hq, h3⟩

theorem deZ_at {ps : List (List Int)} (hp : PgOk ps) {t k : Int} {z : Spt} (h : deZ ps t k = some z) : viewQ ps = 0 ∧ (inR t 0 3 && inR k 1 99) = true ∧ fndS (snF (mvF (spotsOf 0 ps)) (spotsOf 0 ps)) t k = some z ∧ ∃ pn sn zs, FndAt ps z pn sn zs := by
  unfold deZ at h
  split at h
  · rename_i hv
    split at h
    · rename_i hi
      obtain ⟨h1, _, h2, h3⟩ := view_zero hv
      exact ⟨hv, hi, h, found_at hp h1 h2 h3 h⟩
    · cases h
  · cases h
/-- The program's FindRow tells the same. -/
theorem find_deZ {ps : List (List Int)} (hp : PgOk ps) (t k : Int) : (∃ z, deZ ps t k = some z ∧ findR ps t k = toPl z ∧ deQ ps t k = 0) ∨ (deZ ps t k = none ∧ ∃ q, findR ps t k = rp q ∧ q ≠ 0 ∧ deQ ps t k = q) := by
  unfold deQ deZ findR
  by_cases hv : viewQ ps = 0
  · rw [if_pos hv, if_pos hv]
    by_cases hi : (inR t 0 3 && inR k 1 99) = true
    · rw [if_pos hi, if_pos hi]
      have e := fnd_fndS hp t k
      rw [allL_spots (view_zero hv).2.1] at e
      cases hf : fndS (snF (mvF (spotsOf 0 ps)) (spotsOf 0 ps)) t k with
      | none => rw [hf] at e; rw [e]; exact .inr ⟨rfl, 4, rfl, by decide, rfl⟩
      | some z => rw [hf] at e; rw [e]; exact .inl ⟨z, rfl, rfl, rfl⟩
    · rw [if_neg hi, if_neg hi]
      exact .inr ⟨rfl, 3, rfl, by decide, rfl⟩
  · rw [if_neg hv, if_neg hv]
    exact .inr ⟨rfl, viewQ ps, rfl, hv, rfl⟩


theorem dropE_pg : ∀ (k : Nat) (zs : List Int), IsPg zs → IsPg (dropE k zs) ∧ ∀ i, i ≠ 0 → nb (dropE k zs) i = nb zs i
  | 0, zs, h => ⟨h, fun _ _ => rfl⟩
  | k + 1, zs, h => by
    unfold dropE
    split
    · rename_i he
      have h0 := endB_pos he
      obtain ⟨h1, h2⟩ := dropE_pg k (lessP zs) (isPg_less h h0)
      exact ⟨h1, fun i hi => (h2 i hi).trans (nb_less_other i hi)⟩
    · exact ⟨h, fun _ _ => rfl⟩
theorem isPg_drpP {zs : List Int} (h : IsPg zs) (s : Nat) : IsPg (drpP zs s) := (dropE_pg _ _ (isPg_span h s 0 0 (by omega) (by omega))).1
theorem drpP_ne {zs : List Int} (h : Fine zs) {s : Nat} (hh : hasC zs s = true) (hs : s < 16) : zs ≠ drpP zs s := fun e => by
  have h1 : nb (drpP zs s) (3 + 2 * s) = nb (spanSet zs s 0 0) (3 + 2 * s) := (dropE_pg _ _ (isPg_span h.pg s 0 0 (by omega) (by omega))).2 _ (by omega)
  have hl := h.pg.len
  have h2 : nb (spanSet zs s 0 0) (3 + 2 * s) = 0 := by
    unfold spanSet nb byt
    simp [List.getD, hl, show 3 + 2 * s < 64 by omega]
  rw [← e, h2] at h1
  unfold hasC inR at hh
  simp only [Bool.and_eq_true, decide_eq_true_eq, Bool.not_eq_true', Int.toNat_natCast] at hh
  have hs0 : s < nb zs 0 := by omega
  have h3 := (evenP_fine h s hs0).2 h1
  have h4 := hh.2
  unfold empB at h4
  simp [h1, h3] at h4

set_option maxRecDepth 20000 in
set_option maxHeartbeats 2000000 in
theorem l7Drop_any (n₀ : Nat) (X : World) (ob : Nat) (es : List (Int × List Int)) (cur : List (List Int)) (x1 : Option Addr) (k1 : Nat) (V1 : List Value) (x2 : Option Addr) (k2 : Nat) (V2 : List Value) (pn s : Nat) (old : List Int) (w : World) (hS : HpS n₀ X ob es cur x1 k1 V1 x2 k2 V2 w) (hp : cur[pn]? = some old) (hF : Fine old) (hh : hasC old s = true) (hs : s < 16) (hc12 : cur.length ≤ 12) (hel : es.length ≤ 1000) :
    Calls Tryz.prog 133 #[.pointer (some ⟨ob, 0, none⟩), .int .i64 pn, .int .i64 s] w fun e w' => TuPost n₀ X ob (es ++ [((pn : Int), drpP old s)]) (cur.set pn (drpP old s)) e w' := by
  have hpl : pn < cur.length := (List.getElem?_eq_some_iff.1 hp).1
  obtain ⟨gp, hx2⟩ : ∃ gp, x2 = some ⟨gp, 0, none⟩ := by
    rcases hS.a.p.row.2 with ⟨_, h0⟩ | ⟨gp, cap, cu, e, _⟩
    · omega
    · cases e; exact ⟨gp, rfl⟩
  subst hx2
  obtain ⟨y0, hy0⟩ : ∃ y, V2[pn]? = some y := ⟨_, List.getElem?_eq_getElem (by rw [hS.a.p.len]; omega)⟩
  have hyb := hS.a.p.by' pn y0 old hy0 hp
  obtain ⟨ay, cy, fy, hye, hby, _⟩ := Gb.one hyb
  have c8 := hS.a.p.row.cellAt pn (by omega)
  rw [hy0, hye, hF.pg.len] at c8
  have hmd := l2Drop_all ay old cy s w hby.reads hF hs
  obtain ⟨o0, o1, _, _⟩ := hS.o
  have hpi : (pn : Int) < (cur.length : Int) := by omega
  have HS : Hid (HpS n₀ X ob es cur x1 k1 V1 (some ⟨gp, 0, none⟩) k2 V2 w) := hS
  clear hS hyb hby hye hy0
  go_enter Tryz.func133, Tryz.ntmps133
  go_wp2_with (go_at_call 185; refine hmd.mono ?_)
  rintro e w1 ⟨g, dd, rfl, g1, hu⟩
  have hS := HS.out
  have hfr : ∀ q, (Value.slice (some ⟨g, 0, none⟩) 64 dd).ownBlock = some q → ¬ blkP (.slice x1 es.length k1) V1 q ∧ ¬ blkP (.slice (some ⟨gp, 0, none⟩) cur.length k2) V2 q ∧ q ≠ ob := fun q e => by
    have h1 := (Gb.lt hu q e).1
    have hol := hS.o.lt
    exact ⟨fun hh => by have := (hS.a.e.lt hh).2; omega, fun hh => by have := (hS.a.p.lt hh).2; omega, fun hh => by omega⟩
  have hz := isPg_drpP hF.pg s
  have hcon := l7Turn_old n₀ X ob es cur x1 k1 V1 (some ⟨gp, 0, none⟩) k2 V2 pn (some ⟨g, 0, none⟩) dd (drpP old s) old w1 (hS.below g1) hp hF.pg.bd hz.bd (drpP_ne hF hh hs) hz.len hc12 hel (hu.base hS.sz) hfr
  clear hu hS hfr hz hmd o0 o1 c8
  go_wp2_with (go_at_call 165; refine hcon.mono ?_)
  rintro e w2 ⟨rfl, hR⟩
  have HR : Hid _ := hR
  clear hR hcon
  go_wp2_with fail
  go_end0
  exact ⟨rfl, HR.out⟩

end Go.Proofs.YtnfolgoloaeanaaGreat

