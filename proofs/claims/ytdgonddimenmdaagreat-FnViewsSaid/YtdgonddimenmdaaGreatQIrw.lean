/-
  The program's RowsIn: the rows that are seen, in the order of their keys.
-/
import Derived.Test.YtdgonddimenmdaaGreatQFns
import Derived.Test.YtdgonddimenmdaaGreatQSrt
import Derived.Test.YtdgonddimenmdaaGreatQUnpS

namespace Go.Proofs.YtdgonddimenmdaaGreat
open Go.RowKit Go.Maps
set_option linter.unusedVariables false

theorem elW : ElT 26 32 rwE 4 40 where
  und := Tryz.underlying26
  inf := by obtain ⟨i, h1, h2, h3, h4⟩ := info35; exact ⟨i, _, h1, h2, h3, h4, rfl⟩
  len := rwE_len
  one := by intro x u hu; simp [rwE] at hu; rcases hu with rfl | rfl | rfl | rfl <;> rfl
  pos := by decide
  few := by decide

/-- One row ahead of another. -/
def rLt (a b : Rw) : Prop := a.t < b.t ∨ (a.t = b.t ∧ a.k < b.k)
/-- rs: all rows that are seen, rising. -/
def RowsOrd (ps : List (List Int)) (rs : List Rw) : Prop := rs.Perm ((seenL ps).map (·.r)) ∧ rs.Pairwise rLt

theorem RowsOrd.unique {ps : List (List Int)} {rs rs' : List Rw} (h : RowsOrd ps rs) (h' : RowsOrd ps rs') : rs = rs' := by
  refine List.Perm.eq_of_pairwise (le := rLt) (fun a b _ _ h1 h2 => ?_) h.2 h'.2 (h.1.trans h'.1.symm)
  unfold rLt at h1 h2
  omega

/-- The row of a key. -/
def rowK (ps : List (List Int)) (x : K2) : Rw := ((fnd ps x.x x.y).getD (rp 0)).r

theorem rowK_at {ps : List (List Int)} {x : K2} (h : k2P x ∈ (seenKV ps).map (·.1)) : ∃ y, y ∈ seenL ps ∧ fnd ps x.x x.y = some y ∧ rowK ps x = y.r ∧ y.r.t = x.x ∧ y.r.k = x.y := by
  obtain ⟨q, hq, e⟩ := List.mem_map.1 h
  obtain ⟨z, hz, rfl⟩ := List.mem_map.1 hq
  unfold plK k2P at e
  simp only [Prod.mk.injEq] at e
  cases hf : fnd ps x.x x.y with
  | none =>
    unfold fnd at hf
    have := List.find?_eq_none.1 hf z hz
    simp [e.1, e.2] at this
  | some y =>
    have hf' := hf
    unfold fnd at hf
    have h1 := List.mem_of_find?_eq_some hf
    have h2 := List.find?_some hf
    simp at h2
    refine ⟨y, h1, rfl, ?_, h2.1, h2.2⟩
    unfold rowK
    rw [hf']
    rfl

theorem rw_ext : ∀ {a b : Rw}, a.t = b.t → a.k = b.k → a.v = b.v → a.s = b.s → a = b := by
  rintro ⟨_, _, _, _⟩ ⟨_, _, _, _⟩ rfl rfl rfl rfl
  rfl

theorem rise_lt {ys : List K2} (h : Rise ys) (hd : ys.Nodup) : ys.Pairwise fun a b => ltK a b = true := by
  refine List.Pairwise.imp₂ (R := fun a b : K2 => ltK b a = false) (S := fun a b => a ≠ b) (fun a b h1 h2 => ?_) h hd
  unfold ltK at *
  simp only [decide_eq_false_iff_not, decide_eq_true_eq] at *
  have : ¬ (a.x = b.x ∧ a.y = b.y) := fun e => h2 (k2P_inj (by unfold k2P; rw [e.1, e.2]))
  omega

theorem rowsOrd_of {ps : List (List Int)} {ys : List K2} (hnd : ((seenKV ps).map (·.1)).Nodup) (hkw : ∀ y ∈ seenL ps, Kw y.r.t y.r.k) (hr : Rise ys) (hd : ys.Nodup) (hm : ∀ x : K2, x ∈ ys ↔ k2P x ∈ (seenKV ps).map (·.1)) : RowsOrd ps (ys.map (rowK ps)) := by
  have hL := rise_lt hr hd
  have hkeys : ∀ x ∈ ys, (rowK ps x).t = x.x ∧ (rowK ps x).k = x.y := fun x hx => by
    obtain ⟨y, _, _, e, e1, e2⟩ := rowK_at ((hm x).1 hx)
    rw [e]; exact ⟨e1, e2⟩
  have hP : (ys.map (rowK ps)).Pairwise rLt := by
    rw [List.pairwise_map]
    refine hL.imp_of_mem (fun {a b} ha hb h => ?_)
    unfold ltK at h
    simp only [decide_eq_true_eq] at h
    obtain ⟨a1, a2⟩ := hkeys a ha
    obtain ⟨b1, b2⟩ := hkeys b hb
    unfold rLt
    rw [a1, a2, b1, b2]
    exact h
  refine ⟨?_, hP⟩
  have nd1 : (ys.map (rowK ps)).Nodup := hP.imp (fun {a b} h e => by subst e; unfold rLt at h; omega)
  have hkm : (seenKV ps).map (·.1) = (seenL ps).map (fun y => (y.r.t, y.r.k)) := by unfold seenKV; rw [List.map_map]; rfl
  have nd2 : ((seenL ps).map (·.r)).Nodup := by
    rw [hkm] at hnd
    have h1 := List.pairwise_map.1 hnd
    exact List.pairwise_map.2 (h1.imp (fun {a b} h e => h (by rw [e])))
  refine (List.perm_ext_iff_of_nodup nd1 nd2).2 fun r => ⟨fun h => ?_, fun h => ?_⟩
  · obtain ⟨x, hx, rfl⟩ := List.mem_map.1 h
    obtain ⟨y, hy, _, e, _⟩ := rowK_at ((hm x).1 hx)
    exact List.mem_map.2 ⟨y, hy, e.symm⟩
  · obtain ⟨y, hy, rfl⟩ := List.mem_map.1 h
    have hmem : (y.r.t, y.r.k) ∈ (seenKV ps).map (·.1) := by rw [hkm]; exact List.mem_map.2 ⟨y, hy, rfl⟩
    have hx := (hm ⟨y.r.t, y.r.k, hkw y hy⟩).2 hmem
    refine List.mem_map.2 ⟨_, hx, ?_⟩
    have hv : kvF (seenKV ps) y.r.t y.r.k = some (plV y) := kvF_mem hnd (List.mem_map.2 ⟨y, hy, rfl⟩)
    obtain ⟨z, hz, hf, e, e1, e2⟩ := rowK_at hmem (x := ⟨y.r.t, y.r.k, hkw y hy⟩)
    rw [e]
    have hv2 : kvF (seenKV ps) y.r.t y.r.k = some (plV z) := kvF_mem hnd (List.mem_map.2 ⟨z, hz, by unfold plK; rw [e1, e2]⟩)
    rw [hv] at hv2
    simp only [Option.some.injEq, plV, Value.agg.injEq, Array.mk.injEq, List.cons.injEq, Value.int.injEq, Value.string.injEq, true_and, and_true] at hv2
    obtain ⟨_, _, _, q1, q2, q3, q4⟩ := hv2
    exact rw_ext q1.symm q2.symm q3.symm q4.symm

theorem field37 (q p s t k v : Int) (x : ByteArray) (W : World) : (Instr.field 34 (.agg #[.int .i64 q, .int .i64 p, .int .i64 s, .int .i64 t, .int .i64 k, .int .i64 v, .string x]) 3).run Tryz.prog W = .ok (.agg #[.int .i64 t, .int .i64 k, .int .i64 v, .string x]) W := by kernel_rfl

structure RsO (w : World) (b : Nat) : Prop where
  c0 : w.cell? ⟨b, 0, none⟩ = some (.int .i64 0)
  c1 : w.cell? ⟨b, 1, none⟩ = some (.slice none 0 0)
  f0 : w.frozen? ⟨b, 0, none⟩ = false
  f1 : w.frozen? ⟨b, 1, none⟩ = false
theorem RsO.below {w w' : World} {b : Nat} (h : RsO w b) {B : Nat} (hb : Below B w w') (hl : b < B) : RsO w' b :=
  ⟨(hb.cell (p := ⟨b, 0, none⟩) hl).trans h.c0, (hb.cell (p := ⟨b, 1, none⟩) hl).trans h.c1, (hb.frozen (p := ⟨b, 0, none⟩) hl).trans h.f0, (hb.frozen (p := ⟨b, 1, none⟩) hl).trans h.f1⟩
theorem RsO.new (w : World) : RsO (w.alloc (.cells #[.int .i64 0, .slice none 0 0] 28)) w.heap.size :=
  ⟨by simp [go_sem], by simp [go_sem], by simp [go_sem], by simp [go_sem]⟩

theorem Rs.k2 {w : World} {a : Option Addr} {ys : List K2} (h : Rs k2F 2 w a ys) {i : Nat} {x : K2} (hx : ys[i]? = some x) : ∃ b off, a = some ⟨b, off, none⟩ ∧ w.cell? ⟨b, off + i * 2, none⟩ = some (.int .i64 x.x) ∧ w.cell? ⟨b, off + i * 2 + 1, none⟩ = some (.int .i64 x.y) := by
  rcases h with h | ⟨b, off, ha, hc⟩
  · rw [h] at hx; simp at hx
  · exact ⟨b, off, ha, hc i x hx 0 _ rfl, hc i x hx 1 _ rfl⟩

/-- What RowsIn answers. -/
def RiPost (ps : List (List Int)) (w : World) (e : Ending) (w' : World) : Prop :=
  ∃ v rs, e = .returned (.agg #[.int .i64 (viewQ ps), v]) ∧ Below w.heap.size w w' ∧ w'.ownsRow w.heap.size 32 4 v rs.length (flat rwE rs) ∧ (viewQ ps = 0 → RowsOrd ps rs) ∧ (viewQ ps ≠ 0 → rs = [])

set_option maxRecDepth 20000 in
set_option maxHeartbeats 4000000 in
theorem implRowsIn_any (a : Option Addr) (ps : List (List Int)) (n c : Nat) (w : World) (hn : ps.length = n) (hm : n ≤ 9223372036854775807) (hp : PgOk ps) (hr : PgRead w a ps) :
    Calls Tryz.prog 6 #[.slice a n c] w fun e w' => RiPost ps w e w' := by
  have hO := RsO.new w
  have gX : Below w.heap.size w (w.alloc (.cells #[.int .i64 0, .slice none 0 0] 28)) := by go_grown
  have hlX : w.heap.size < (w.alloc (.cells #[.int .i64 0, .slice none 0 0] 28)).heap.size := by simp
  obtain ⟨X, hX0⟩ : ∃ X, w.alloc (.cells #[.int .i64 0, .slice none 0 0] 28) = X := ⟨_, rfl⟩
  rw [hX0] at hO gX hlX
  have hr := hr.below gX (Nat.le_refl _)
  obtain ⟨hok, hl200⟩ := allL_ok hp
  have HPo : Hid (∀ y ∈ seenL ps, Kw y.r.t y.r.k) := fun y hy => kw_small (plF_ok hok y hy).1 (plF_ok hok y hy).2.1
  have HLen : Hid ((seenKV ps).length ≤ 1000) := by
    show _ ≤ _
    have := plF_len (mvF (allL ps)) (allL ps)
    unfold seenKV seenL
    rw [List.length_map]
    omega
  clear hok hl200
  go_enter Tryz.func6, Tryz.ntmps6
  go_wp2_with fail
  refine (viewOf_any a ps n c _ hn hm hp hr).mono ?_
  rintro e w1 ⟨m, rfl, g1, hv⟩
  have hO := hO.below g1 hlX
  have hlX := Nat.lt_of_lt_of_le hlX g1.size
  have g := gX.trans (g1.mono gX.size)
  have HV : Hid (viewQ ps = 0 → ∃ b sz, m = some b ∧ MapK 52 w1 b (seenKV ps) sz) := hv
  clear hr g1 gX hX0 hp hv
  obtain ⟨q, hq⟩ : ∃ q, q = viewQ ps := ⟨_, rfl⟩
  have HQ : Hid (viewQ ps = q) := hq.symm
  rw [← hq]
  clear hq
  by_cases hq0 : q = 0
  · subst hq0
    obtain ⟨b, sz, rfl, hK⟩ := HV.out HQ.out
    have HN : Hid (((seenKV ps).map (·.1)).Nodup) := (viewQ_nodup HQ.out).2.2
    clear HV
    go_wp2_with fail
    refine (risingP_any b sz (seenKV ps) _ hK (by have := HLen.out; omega)).mono ?_
    rintro e w2 ⟨ka, ys, kc, rfl, g2, hI, hR, hD, hM⟩
    have HO : Hid (RowsOrd ps (ys.map (rowK ps))) := rowsOrd_of HN.out HPo.out hR hD hM
    have HM : Hid (∀ x ∈ ys, k2P x ∈ (seenKV ps).map (·.1)) := fun x hx => (hM x).1 hx
    have HL : Hid (ys.length ≤ 1000) := by
      have h1 := nodup_le (ys.map k2P) ((seenKV ps).map (·.1)) (k2P_nodup hD) (fun q hq => by
        obtain ⟨x, hx, rfl⟩ := List.mem_map.1 hq
        exact (hM x).1 hx)
      simp only [List.length_map] at h1
      exact Nat.le_trans h1 HLen.out
    have hO := hO.below g2 hlX
    have hbl := hK.1.lt
    have hK := hK.below g2
    have hI := hI.reads
    have hs0 := g.size
    have hs2 := g2.size
    have g := g.trans (g2.mono g.size)
    have HI : Hid (Rs k2F 2 w2 ka ys) := hI
    clear hR hD hM hI g2
    obtain ⟨nn, hnn⟩ : ∃ nn, ys.length = nn := ⟨_, rfl⟩
    have HNN : Hid (ys.length = nn) := hnn
    have hn9 : nn ≤ 1000 := by rw [← hnn]; exact HL.out
    rw [hnn]
    clear hnn HL
    have HKx : Hid (MapK 52 w2 b (seenKV ps) sz) := hK
    clear hK
    go_wp2_with fail
    go_loopw [20, 5] (fun i v wr => ∃ j : Nat, j ≤ nn ∧ i = .int .i64 j ∧ Below w2.heap.size w2 wr ∧ wr.ownsRow w2.heap.size 32 4 v ((ys.take j).map (rowK ps)).length (flat rwE ((ys.take j).map (rowK ps)))) (fun i _ _ => nn - (intOf i).toNat)
    case atStart => exact ⟨0, Nat.zero_le _, rfl, Below.refl _ _, ownsRow_nil _ _ _ _⟩
    case round =>
      obtain ⟨j, hj, rfl, gr, ho⟩ := hrel
      by_cases hlt : j < nn
      · obtain ⟨x, hx⟩ : ∃ x, ys[j]? = some x := ⟨_, List.getElem?_eq_getElem (by rw [HNN.out]; exact hlt)⟩
        obtain ⟨kb, ko, rfl, k0, k1⟩ := HI.out.k2 hx
        have hkl := World.block_lt_of_cell? _ _ k0
        have k0 := (gr.cell hkl).trans k0
        have k1 := (gr.cell (p := ⟨kb, ko + j * 2 + 1, none⟩) hkl).trans k1
        have hxm := List.mem_of_getElem? hx
        obtain ⟨y, hy, hf, hrk, hyt, hyk⟩ := rowK_at (HM.out x hxm)
        have hKr := HKx.out.below gr
        have hl := fun (V : World) (hV : Below wr.heap.size wr V) => (hKr.below hV).1.look keyT73 Tryz.underlying46 (Tryz.zeroValue34 V) x.h
        rw [fnd_kv HN.out, hf] at hl
        simp only [Option.map_some, Option.getD_some, plV, kv] at hl
        have hjn : (j : Int) < (nn : Int) := by omega
        have HT : Hid ((ys.take (j + 1)).map (rowK ps) = (ys.take j).map (rowK ps) ++ [y.r]) := by show _ = _; rw [take_snoc hx, List.map_append, List.map_singleton, hrk]
        have hlen : ((ys.take j).map (rowK ps)).length + 1 ≤ 100000000 := by rw [List.length_map, List.length_take]; omega
        have HL2 : Hid (∀ V, Below wr.heap.size wr V → _) := hl
        clear hx hxm hl hf hrk hy hKr
        generalize (ys.take j).map (rowK ps) = rs at ho HT hlen
        obtain ⟨yq, yp, ysl, yt, yk, yv, yst⟩ := y
        obtain ⟨xt, xk, xh⟩ := x
        dsimp only at hyt hyk HT k0 k1 HL2
        subst hyt
        subst hyk
        have hgs := gr.size
        go_upto_region 8 with (fail)
        generalize hY : World.alloc _ _ = Y
        have gY : Below wr.heap.size wr Y := by rw [← hY]; go_grown
        have y0 : Y.cell? ⟨wr.heap.size, 0, none⟩ = some (.int .i64 yt) := by rw [← hY]; simp [go_sem]
        have y1 : Y.cell? ⟨wr.heap.size, 1, none⟩ = some (.int .i64 yk) := by rw [← hY]; simp [go_sem]
        have hl := HL2.out Y gY
        have hlow : ∀ k, u5.ownBlock = some k → w2.heap.size ≤ k := fun k hk => (ho.lt k hk).1
        have ho := ownsRow_below ho gY
        have gr := gr.trans (gY.mono gr.size)
        have hgs2 := gr.size
        clear hY gY k0 k1 HL2
        generalize wr.heap.size = cb at y0 y1 ⊢
        have hfd := field37 yq yp ysl yt yk yv yst Y
        go_wp2_with (at_builtin; refine wpList_append_sl elW _ rfl _ _ rfl w2.heap.size _ rs [⟨yt, yk, yv, yst⟩] (some ⟨Y.heap.size, 0, none⟩) 1 1 rfl rfl rfl (ownsRow_below ho (by go_grown)) (rs_one (enc := rwE) Y ⟨yt, yk, yv, yst⟩ 32) hlen (by simp; omega) ?_)
        intro v' w' ho' hg' _
        have ho2 : w'.ownsRow w2.heap.size 32 4 v' ((ys.take (j + 1)).map (rowK ps)).length (flat rwE ((ys.take (j + 1)).map (rowK ps))) := by rw [HT.out, List.length_append]; exact ho'
        have gr2 : Below w2.heap.size w2 w' := Below.grown (gr.trans ((((Below.refl _ Y).alloc (Nat.le_refl _) _)).mono gr.size)) hg' (by simp; omega) hlow
        clear ho' hg' ho y0 y1 hl gr
        go_wp2_with fail
        go_roundw
        case rel => exact ⟨j + 1, by omega, by go_num, gr2, ho2⟩
        case measure => simp [intOf]; omega
      · have hj' : j = nn := by omega
        have hO := hO.below gr (by omega)
        have HR : Hid ((ys.take j).map (rowK ps) = ys.map (rowK ps)) := by show _ = _; rw [List.take_of_length_le (by rw [HNN.out]; omega)]
        have ho : wr.ownsRow w2.heap.size 32 4 u5 (ys.map (rowK ps)).length (flat rwE (ys.map (rowK ps))) := by rw [← HR.out]; exact ho
        clear HR
        subst hj'
        obtain ⟨ra, rc, rfl, _, _, _⟩ := SlIn.ofRow rwE_len ho
        obtain ⟨c0, c1, f0, f1⟩ := hO
        obtain ⟨rn, hrn⟩ : ∃ rn, rn = (ys.map (rowK ps)).length := ⟨_, rfl⟩
        rw [← hrn] at ho ⊢
        have HRN : Hid (rn = (ys.map (rowK ps)).length) := hrn
        clear hrn
        have hgs := gr.size
        go_wp2_with fail
        refine bodyPost_ret (v := .agg #[.int .i64 0, .slice ra rn rc]) (by simp [results, Tryz.results6, go_sem, *]) rfl ?_
        refine ⟨_, ys.map (rowK ps), by rw [HQ.out], ?_, ?_, fun _ => HO.out, fun h => absurd HQ.out h⟩
        · have g := g.trans (gr.mono g.size)
          go_grown
        · rw [← HRN.out]
          exact ownsRow_base (ownsRow_setCell_below (ownsRow_setCell_below ho (by dsimp only; omega) _) (by dsimp only; omega) _) (by omega)
  · have d : (q != 0) = true := by simpa using hq0
    obtain ⟨c0, c1, f0, f1⟩ := hO
    go_wp2_with fail
    refine bodyPost_ret (v := .agg #[.int .i64 q, .slice none 0 0]) (by simp [results, Tryz.results6, go_sem, *]) rfl ?_
    exact ⟨_, [], by rw [HQ.out], by go_grown, ownsRow_nil _ _ _ _, fun h => absurd (HQ.out.symm.trans h) hq0, fun _ => rfl⟩

end Go.Proofs.YtdgonddimenmdaaGreat
