/-
  The program's ApplyChanges.
-/
import Derived.Test.YtmbllmhpnopbdaaFFRkc
import Derived.Test.YtmbllmhpnopbdaaFFLac
import Derived.Test.YtmbllmhpnopbdaaFFTrn

namespace Go.Proofs.Ytmbllmhpnopbdaa
open Go.RowKit Go.Maps
set_option linter.unusedVariables false

theorem Rs.k2 {w : World} {a : Option Addr} {ys : List K3} (h : Rs k2F 2 w a ys) {i : Nat} {x : K3} (hx : ys[i]? = some x) : ∃ b off, a = some ⟨b, off, none⟩ ∧ w.cell? ⟨b, off + i * 2, none⟩ = some (.int .i64 x.x) ∧ w.cell? ⟨b, off + i * 2 + 1, none⟩ = some (.int .i64 x.y) := by
  rcases h with h | ⟨b, off, ha, hc⟩
  · rw [h] at hx; simp at hx
  · exact ⟨b, off, ha, hc i x hx 0 _ rfl, hc i x hx 1 _ rfl⟩
theorem rise_lt {ys : List K3} (h : Rise ys) (hd : ys.Nodup) : ys.Pairwise fun a b => ltK a b = true := by
  refine List.Pairwise.imp₂ (R := fun a b : K3 => ltK b a = false) (S := fun a b => a ≠ b) (fun a b h1 h2 => ?_) h hd
  unfold ltK at *
  simp only [decide_eq_false_iff_not, decide_eq_true_eq] at *
  have : ¬ (a.x = b.x ∧ a.y = b.y) := fun e => h2 (k2P_inj (by unfold k2P; rw [e.1, e.2]))
  omega
theorem rwK_nodup {rs : List Rw} (hu : Uniq rs) : ((rs.map rwK).map (·.1)).Nodup := by
  rw [List.map_map]
  refine List.Pairwise.map _ (fun a b hab e => ?_) hu
  simp only [Function.comp, rwK, Prod.mk.injEq] at e
  exact hab e
theorem fV_kv {rs : List Rw} (hu : Uniq rs) : kvF (rs.map rwK) = fV rs := by
  funext x y
  unfold fV
  cases hf : fR rs x y with
  | none =>
    cases hk : kvF (rs.map rwK) x y with
    | none => rfl
    | some v =>
      have h1 := (kvF_some (rs.map rwK) x y).1 (by rw [hk]; rfl)
      rw [List.map_map] at h1
      obtain ⟨r, hr, e⟩ := List.mem_map.1 h1
      simp only [Function.comp, rwK, Prod.mk.injEq] at e
      exact absurd e (fR_none.1 hf r hr)
  | some r =>
    obtain ⟨hm, e1, e2⟩ := fR_mem hf
    exact kvF_mem (rwK_nodup hu) (List.mem_map.2 ⟨r, hm, by unfold rwK; rw [e1, e2]⟩)
theorem mapK_of {w : World} {b : Nat} {rs : List Rw} (hu : Uniq rs) (h : MapF 65 w b (fV rs) rs.length) : MapK 65 w b (rs.map rwK) rs.length := by
  refine ⟨by rw [fV_kv hu]; exact h, by simp, ?_⟩
  simp only [List.length_map, true_iff]
  exact rwK_nodup hu
theorem mapF_of {w : World} {b sz : Nat} {rs : List Rw} (hu : Uniq rs) (h : MapK 65 w b (rs.map rwK) sz) : MapF 65 w b (fV rs) rs.length := by
  obtain ⟨h1, _, h3⟩ := h
  have := h3.2 (rwK_nodup hu)
  rw [List.length_map] at this
  rw [fV_kv hu, this] at h1
  exact h1
theorem doL_sub {rs : List Rw} {c : Chg} {r : Rw} (h : r ∈ doL rs c) : r ∈ rs ∨ r = c.a := by
  unfold doL at h
  split at h
  · rcases List.mem_cons.1 ((putL_at _ _).perm.mem_iff.1 h) with h | h
    · exact .inr h
    · exact .inl (delL_mem.1 h).1
  · exact .inl (delL_mem.1 h).1
/-- The row of a key. -/
def rowF (rs : List Rw) (x : K3) : Rw := (fR rs x.x x.y).getD zR
theorem rowF_at {rs : List Rw} {x : K3} (h : k2P x ∈ (rs.map rwK).map (·.1)) : ∃ r, r ∈ rs ∧ fR rs x.x x.y = some r ∧ rowF rs x = r ∧ r.t = x.x ∧ r.k = x.y := by
  rw [List.map_map] at h
  obtain ⟨r, hr, e⟩ := List.mem_map.1 h
  simp only [Function.comp, rwK, k2P, Prod.mk.injEq] at e
  cases hf : fR rs x.x x.y with
  | none => exact absurd e (fR_none.1 hf r hr)
  | some y =>
    obtain ⟨m, e1, e2⟩ := fR_mem hf
    exact ⟨y, m, rfl, by unfold rowF; rw [hf]; rfl, e1, e2⟩
theorem rowF_all {rs : List Rw} {ys : List K3} (hr : RisL rs) (hR : Rise ys) (hd : ys.Nodup) (hm : ∀ x : K3, x ∈ ys ↔ k2P x ∈ (rs.map rwK).map (·.1)) : ys.map (rowF rs) = rs := by
  have hP : (ys.map (rowF rs)).Pairwise rLt := by
    rw [List.pairwise_map]
    refine (rise_lt hR hd).imp_of_mem fun {a b} ha hb h => ?_
    unfold ltK at h
    simp only [decide_eq_true_eq] at h
    obtain ⟨_, _, _, e, a1, a2⟩ := rowF_at ((hm a).1 ha)
    obtain ⟨_, _, _, e', b1, b2⟩ := rowF_at ((hm b).1 hb)
    unfold rLt
    rw [e, e', a1, a2, b1, b2]
    exact h
  have nd : ∀ l : List Rw, l.Pairwise rLt → l.Nodup := fun l hl => hl.imp fun {a b} h e => by subst e; unfold rLt at h; omega
  refine List.Perm.eq_of_pairwise (le := rLt) (fun a b _ _ h1 h2 => by unfold rLt at h1 h2; omega) hP hr.1 ((List.perm_ext_iff_of_nodup (nd _ hP) (nd _ hr.1)).2 fun r => ?_)
  constructor
  · intro h
    obtain ⟨x, hx, rfl⟩ := List.mem_map.1 h
    obtain ⟨y, hy, _, e, _⟩ := rowF_at ((hm x).1 hx)
    rw [e]; exact hy
  · intro h
    have hb := hr.2 r h
    have hk : Kw r.t r.k := kw_small (by unfold small; omega) (by unfold small; omega)
    have hx : (⟨r.t, r.k, hk⟩ : K3) ∈ ys := (hm _).2 (List.mem_map.2 ⟨rwK r, List.mem_map.2 ⟨r, h, rfl⟩, rfl⟩)
    obtain ⟨y, hy, hf, e, e1, e2⟩ := rowF_at ((hm _).1 hx)
    refine List.mem_map.2 ⟨_, hx, ?_⟩
    rw [e]
    obtain ⟨i, hi⟩ := List.getElem?_of_mem hy
    obtain ⟨j, hj⟩ := List.getElem?_of_mem h
    have := uniq_eq (uniq_of hr.1) hi hj ⟨e1, e2⟩
    subst this
    rw [hi] at hj; exact Option.some.inj hj

set_option maxRecDepth 20000 in
set_option maxHeartbeats 8000000 in
theorem implApplyChanges_any (a a' : Option Addr) (rs : List Rw) (cs : List Chg) (n m c c' : Nat) (w : World) (hn : rs.length = n) (hn' : cs.length = m) (hm : n ≤ 1048576) (hm' : m ≤ 1048576) (hs : ∀ r ∈ rs, r.s.size ≤ 1048576) (hs' : ∀ x ∈ cs, x.b.s.size ≤ 1048576 ∧ x.a.s.size ≤ 1048576) (hr : Rs rwE 4 w a rs) (hr' : Rs chE 10 w a' cs) :
    Calls Try.prog 8 #[.slice a n c, .slice a' m c'] w fun e w' => AcPost rs cs w e w' := by
  have hO := RsO.new w
  have gX : Below w.heap.size w (w.alloc (.cells #[.int .i64 0, .slice none 0 0] 36)) := by go_grown
  have hlX : w.heap.size < (w.alloc (.cells #[.int .i64 0, .slice none 0 0] 36)).heap.size := by simp
  have HB : Hid (∀ W, Below w.heap.size w W → Rs rwE 4 W a rs) := fun W hW => hr.below hW (Nat.le_refl _)
  have HA : Hid (∀ W, Below w.heap.size w W → Rs chE 10 W a' cs) := fun W hW => hr'.below hW (Nat.le_refl _)
  have HN : Hid (rs.length = n) := hn
  have HM : Hid (cs.length = m) := hn'
  have HS : Hid (∀ r ∈ rs, r.s.size ≤ 1048576) := hs
  have HS' : Hid (∀ x ∈ cs, x.b.s.size ≤ 1048576 ∧ x.a.s.size ≤ 1048576) := hs'
  have HSm : Hid (∀ r ∈ rs, r.s.size ≤ maxLen) := fun r h => Nat.le_trans (hs r h) (by decide)
  have HSc : Hid (∀ x ∈ cs, x.b.s.size ≤ maxLen ∧ x.a.s.size ≤ maxLen) := fun x h => ⟨Nat.le_trans (hs' x h).1 (by decide), Nat.le_trans (hs' x h).2 (by decide)⟩
  obtain ⟨q1, hq1⟩ : ∃ q, q = rowsQ rs := ⟨_, rfl⟩
  have HQ1 : Hid (rowsQ rs = q1) := hq1.symm
  obtain ⟨X, hX0⟩ : ∃ X, w.alloc (.cells #[.int .i64 0, .slice none 0 0] 36) = X := ⟨_, rfl⟩
  rw [hX0] at hO gX hlX
  clear hr hr' hn hn' hs hs' hq1
  go_enter Try.func8, Try.ntmps8
  go_wp2_with fail
  refine (implRowsFault_any a rs n c _ HN.out (by omega) HSm.out (HB.out _ gX)).mono ?_
  rintro e w1 ⟨rfl, g1⟩
  rw [HQ1.out]
  have hO := hO.below g1 hlX
  have hlX := Nat.lt_of_lt_of_le hlX g1.size
  have g := gX.trans (g1.mono gX.size)
  clear g1 gX hX0
  have hs0 := g.size
  by_cases h1 : q1 = 0
  · subst h1
    obtain ⟨hri, hr60⟩ := rowsQ_ris HQ1.out
    have HRi : Hid (RisL rs) := hri
    have hcon := rowsByKey_any a rs n c w1 HN.out (by have := HN.out; omega) (fun r h => (rowsQ_zero HQ1.out).2.2 r h) (HB.out _ g)
    clear hri hr60
    go_wp2_with (go_at_call 29; refine hcon.mono ?_)
    rintro e w2 ⟨mb, sz, rfl, hmb, g2, hK⟩
    have hF : MapF 65 w2 mb (fV rs) rs.length := mapF_of (uniq_of HRi.out.1) hK
    clear hK hcon
    go_wp2_with fail
    go_loopw [23] (fun i wr => ∃ (j : Nat) (cur : List Rw), j ≤ m ∧ i = .int .i64 j ∧ Below w1.heap.size w1 wr ∧ MapF 65 wr mb (fV cur) cur.length ∧ Hid (RisL cur) ∧ Hid (∀ r ∈ cur, r.s.size ≤ 1048576) ∧ Hid (apR rs cs = apR cur (cs.drop j))) (fun i _ => m - (intOf i).toNat)
    case atStart => exact ⟨0, rs, Nat.zero_le _, rfl, g2, hF, HRi, HS, rfl⟩
    case round =>
      clear hF g2
      obtain ⟨j, cur, hj, rfl, gr, hF, hri, hsz, hap⟩ := hrel
      have hcl := hri.out.len
      have gw := g.trans (gr.mono g.size)
      have hOr := hO.below gr hlX
      have hgs := gr.size
      by_cases hlt : j < m
      · obtain ⟨x, hx⟩ : ∃ x, cs[j]? = some x := ⟨_, List.getElem?_eq_getElem (by rw [HM.out]; exact hlt)⟩
        obtain ⟨b, off, rfl, X'⟩ := (HA.out _ gw).chg hx
        have hjn : (j : Int) < (m : Int) := by omega
        have hz := HSc.out x (List.mem_of_getElem? hx)
        have hz' := HS'.out x (List.mem_of_getElem? hx)
        have HAp : Hid (apR rs cs = if chQ x = 0 then (if fitB cur x = true then apR (doL cur x) (cs.drop (j + 1)) else (8, [])) else (chQ x, [])) := by
          show _ = _
          rw [hap.out, drop_chg hx]; rfl
        have HSz : Hid (∀ r ∈ doL cur x, r.s.size ≤ 1048576) := fun r h => by
          rcases doL_sub h with h | rfl
          · exact hsz.out r h
          · exact hz'.2
        have HRi2 : Hid (chQ x = 0 → RisL (doL cur x)) := fun h => doL_ok hri.out h
        have hcon : ∀ W, Below wr.heap.size wr W → Calls Try.prog 30 #[.map (some mb), .agg #[.bool x.was, .int .i64 x.b.t, .int .i64 x.b.k, .int .i64 x.b.v, .string x.b.s, .bool x.is, .int .i64 x.a.t, .int .i64 x.a.k, .int .i64 x.a.v, .string x.a.s]] W fun e w' => TrPost w1.heap.size mb cur x W e w' := fun W hW => turnRow_any w1.heap.size mb cur x.was x.b.t x.b.k x.b.v x.b.s x.is x.a.t x.a.k x.a.v x.a.s W (hF.below hW) hri.out hmb hz.1 hz.2
        have HCon : Hid (∀ W, Below wr.heap.size wr W → Calls Try.prog 30 #[.map (some mb), .agg #[.bool x.was, .int .i64 x.b.t, .int .i64 x.b.k, .int .i64 x.b.v, .string x.b.s, .bool x.is, .int .i64 x.a.t, .int .i64 x.a.k, .int .i64 x.a.v, .string x.a.s]] W fun e w' => TrPost w1.heap.size mb cur x W e w') := hcon
        clear hx hz hz' hap hF hcon hsz
        obtain ⟨x0, ⟨bt, bk, bv, bs⟩, x5, ⟨at', ak, av, sa⟩⟩ := x
        obtain ⟨c0, c1, c2, c3, c4, c5, c6, c7, c8, c9⟩ := X'
        dsimp only at c0 c1 c2 c3 c4 c5 c6 c7 c8 c9 HCon
        go_upto_region 8 with (fail)
        generalize hY : World.alloc _ _ = Y
        have gY : Below wr.heap.size wr Y := by rw [← hY]; go_grown
        have Z : ChC Y wr.heap.size 0 ⟨x0, ⟨bt, bk, bv, bs⟩, x5, ⟨at', ak, av, sa⟩⟩ := by rw [← hY]; exact ⟨by simp [go_sem], by simp [go_sem], by simp [go_sem], by simp [go_sem], by simp [go_sem], by simp [go_sem], by simp [go_sem], by simp [go_sem], by simp [go_sem], by simp [go_sem]⟩
        have hcon := HCon.out Y gY
        have hOr := hOr.below gY (Nat.lt_of_lt_of_le hlX hgs)
        have hYl : w.heap.size < Y.heap.size := Nat.lt_of_lt_of_le (Nat.lt_of_lt_of_le hlX hgs) gY.size
        have gr := gr.trans (gY.mono gr.size)
        clear hY c0 c1 c2 c3 c4 c5 c6 c7 c8 c9 HCon gY
        obtain ⟨c0, c1, c2, c3, c4, c5, c6, c7, c8, c9⟩ := Z
        dsimp only at c0 c1 c2 c3 c4 c5 c6 c7 c8 c9
        generalize wr.heap.size = cb at c0 c1 c2 c3 c4 c5 c6 c7 c8 c9 ⊢
        by_cases hq : chQ ⟨x0, ⟨bt, bk, bv, bs⟩, x5, ⟨at', ak, av, sa⟩⟩ = 0
        · have HQc : Hid (chQ ⟨x0, ⟨bt, bk, bv, bs⟩, x5, ⟨at', ak, av, sa⟩⟩ = 0) := hq
          clear hq
          rcases Bool.eq_false_or_eq_true (fitB cur ⟨x0, ⟨bt, bk, bv, bs⟩, x5, ⟨at', ak, av, sa⟩⟩) with hft | hft
          · have HAp2 : Hid (apR rs cs = apR (doL cur ⟨x0, ⟨bt, bk, bv, bs⟩, x5, ⟨at', ak, av, sa⟩⟩) (cs.drop (j + 1))) := by show _ = _; rw [HAp.out, if_pos HQc.out, if_pos hft]
            have HRi3 : Hid (RisL (doL cur ⟨x0, ⟨bt, bk, bv, bs⟩, x5, ⟨at', ak, av, sa⟩⟩)) := HRi2.out HQc.out
            have hcon2 : Calls Try.prog 30 #[.map (some mb), .agg #[.bool x0, .int .i64 bt, .int .i64 bk, .int .i64 bv, .string bs, .bool x5, .int .i64 at', .int .i64 ak, .int .i64 av, .string sa]] Y fun e w' => e = .returned (.int .i64 0) ∧ Below w1.heap.size Y w' ∧ MapF 65 w' mb (fV (doL cur ⟨x0, ⟨bt, bk, bv, bs⟩, x5, ⟨at', ak, av, sa⟩⟩)) (doL cur ⟨x0, ⟨bt, bk, bv, bs⟩, x5, ⟨at', ak, av, sa⟩⟩).length := hcon.mono (fun e w' h => by
              rcases h with ⟨hb, h | h | h⟩
              · exact absurd HQc.out h.1
              · exact absurd (h.2.1.symm.trans hft) (by decide)
              · exact ⟨h.2.2.1, hb, h.2.2.2⟩)
            clear hcon hft HAp HRi2
            generalize doL cur ⟨x0, ⟨bt, bk, bv, bs⟩, x5, ⟨at', ak, av, sa⟩⟩ = nw at hcon2 HRi3 HAp2 HSz
            go_wp2_with (go_at_call 30; refine hcon2.mono ?_; rintro e w8 ⟨rfl, b8, m8⟩)
            have g8 := gr.trans b8
            clear hcon2 hOr c0 c1 c2 c3 c4 c5 c6 c7 c8 c9
            go_wp2_with fail
            go_roundw
            case rel => exact ⟨j + 1, nw, by omega, by go_num, g8, m8, HRi3, HSz, HAp2⟩
            case measure => simp [intOf]; omega
          · have HAp2 : Hid (apR rs cs = (8, [])) := by show _ = _; rw [HAp.out, if_pos HQc.out, if_neg (by rw [hft]; decide)]
            have HQ : Hid (acQ rs cs = 8) := acQ_code HQ1.out HAp2.out (by decide)
            have hcon2 : Calls Try.prog 30 #[.map (some mb), .agg #[.bool x0, .int .i64 bt, .int .i64 bk, .int .i64 bv, .string bs, .bool x5, .int .i64 at', .int .i64 ak, .int .i64 av, .string sa]] Y fun e w' => e = .returned (.int .i64 8) ∧ Below w1.heap.size Y w' := hcon.mono (fun e w' h => by
              rcases h with ⟨hb, h | h | h⟩
              · exact absurd HQc.out h.1
              · exact ⟨h.2.2, hb⟩
              · exact absurd (h.2.1.symm.trans hft) (by decide))
            clear hcon hft HAp HRi2
            go_wp2_with (go_at_call 30; refine hcon2.mono ?_)
            rintro e w8 ⟨rfl, b8⟩
            have hOr := hOr.below b8 hlX
            have g8 := g.trans ((gr.trans b8).mono g.size)
            clear hcon2 b8 gr c0 c1 c2 c3 c4 c5 c6 c7 c8 c9
            obtain ⟨c0, c1, f0, f1⟩ := hOr
            go_wp2_with fail
            refine bodyPost_ret (v := .agg #[.int .i64 8, .slice none 0 0]) (by simp [results, Try.results8, go_sem, *]) rfl ?_
            exact AcPost.code HQ.out (by decide) (by go_grown)
        · obtain ⟨qc, hqc⟩ : ∃ q, q = chQ ⟨x0, ⟨bt, bk, bv, bs⟩, x5, ⟨at', ak, av, sa⟩⟩ := ⟨_, rfl⟩
          have HAp2 : Hid (apR rs cs = (qc, [])) := by show _ = _; rw [HAp.out, if_neg hq, ← hqc]
          have hc0 : qc ≠ 0 := by rw [hqc]; exact hq
          have HQ : Hid (acQ rs cs = qc) := acQ_code HQ1.out HAp2.out hc0
          have hcon2 : Calls Try.prog 30 #[.map (some mb), .agg #[.bool x0, .int .i64 bt, .int .i64 bk, .int .i64 bv, .string bs, .bool x5, .int .i64 at', .int .i64 ak, .int .i64 av, .string sa]] Y fun e w' => e = .returned (.int .i64 qc) ∧ Below w1.heap.size Y w' := hcon.mono (fun e w' h => by
            rcases h with ⟨hb, h | h | h⟩
            · exact ⟨by rw [h.2, ← hqc], hb⟩
            · exact absurd h.1 hq
            · exact absurd h.1 hq)
          have d : (qc != 0) = true := by simpa using hc0
          clear hcon HAp HRi2 hqc hq
          go_wp2_with (go_at_call 30; refine hcon2.mono ?_)
          rintro e w8 ⟨rfl, b8⟩
          have hOr := hOr.below b8 hlX
          have g8 := g.trans ((gr.trans b8).mono g.size)
          clear hcon2 b8 gr c0 c1 c2 c3 c4 c5 c6 c7 c8 c9
          obtain ⟨c0, c1, f0, f1⟩ := hOr
          go_wp2_with fail
          refine bodyPost_ret (v := .agg #[.int .i64 qc, .slice none 0 0]) (by simp [results, Try.results8, go_sem, *]) rfl ?_
          exact AcPost.code HQ.out hc0 (by go_grown)
      · have hjn : ¬ (j : Int) < (m : Int) := by omega
        have HAp : Hid (apR rs cs = (0, cur)) := by
          show _ = _
          rw [hap.out, List.drop_of_length_le (by rw [HM.out]; omega)]; rfl
        have HQ : Hid (acQ rs cs = if 60 < cur.length then 2 else 0) := acQ_end HQ1.out HAp.out
        have HLc : Hid (acQ rs cs = 0 → acL rs cs = cur) := fun h => by unfold acL; rw [if_pos h, HAp.out]
        obtain ⟨cn, hcn⟩ : ∃ cn, cn = cur.length := ⟨_, rfl⟩
        have HCN : Hid (cur.length = cn) := hcn.symm
        rw [← hcn] at hcl
        have HF : Hid (MapF 65 wr mb (fV cur) cur.length) := hF
        have hlm := fun ty => hF.len (t := 59) Try.underlying59 ty
        rw [← hcn] at hlm
        clear hap hcn hF
        by_cases h60 : 60 < cn
        · have HQ2 : Hid (acQ rs cs = 2) := by show _ = _; rw [HQ.out, HCN.out, if_pos h60]
          have d60 : (60 : Int) < (cn : Int) := by omega
          obtain ⟨c0, c1, f0, f1⟩ := hOr
          go_wp2_with fail
          refine bodyPost_ret (v := .agg #[.int .i64 2, .slice none 0 0]) (by simp [results, Try.results8, go_sem, *]) rfl ?_
          exact AcPost.code HQ2.out (by decide) (by go_grown)
        · have HQ2 : Hid (acQ rs cs = 0) := by show _ = _; rw [HQ.out, HCN.out, if_neg h60]
          have d60 : ¬ (60 : Int) < (cn : Int) := by omega
          have hcon := risingR_any mb cur.length (cur.map rwK) wr (mapK_of (uniq_of hri.out.1) HF.out) (by rw [List.length_map, HCN.out]; omega)
          go_wp2_with (go_at_call 31; refine hcon.mono ?_)
          rintro e w3 ⟨ka, ys, kc, rfl, g3, hI, hR, hD, hMm⟩
          have HAll : Hid (ys.map (rowF cur) = cur) := rowF_all hri.out hR hD hMm
          have HMm : Hid (∀ x ∈ ys, k2P x ∈ (cur.map rwK).map (·.1)) := fun x hx => (hMm x).1 hx
          have hO3 := hOr.below g3 (Nat.lt_of_lt_of_le hlX hgs)
          have HI : Hid (Rs k2F 2 w3 ka ys) := hI.reads
          have HF3 : Hid (MapF 65 w3 mb (fV cur) cur.length) := HF.out.below g3
          have g3' := gw.trans (g3.mono gw.size)
          have hs3 := g3.size
          obtain ⟨nn, hnn⟩ : ∃ nn, ys.length = nn := ⟨_, rfl⟩
          have HNN : Hid (ys.length = nn) := hnn
          have hn9 : nn ≤ 1000 := by
            have := congrArg List.length HAll.out
            rw [List.length_map, HCN.out] at this
            omega
          rw [hnn]
          have hl3 : w.heap.size < w3.heap.size := Nat.lt_of_lt_of_le (Nat.lt_of_lt_of_le hlX hgs) g3.size
          clear hR hD hMm hI hcon hlm hnn g3 HF
          obtain ⟨wv, hwv⟩ : ∃ wv, wv = wr := ⟨_, rfl⟩
          subst hwv
          go_wp2_with fail
          go_loopw [42, 10] (fun i v wr => ∃ j : Nat, j ≤ nn ∧ i = .int .i64 j ∧ Below w3.heap.size w3 wr ∧ wr.ownsRow w3.heap.size 26 4 v ((ys.take j).map (rowF cur)).length (flat rwE ((ys.take j).map (rowF cur)))) (fun i _ _ => nn - (intOf i).toNat)
          case atStart => exact ⟨0, Nat.zero_le _, rfl, Below.refl _ _, ownsRow_nil _ _ _ _⟩
          case round =>
            obtain ⟨j2, hj2, rfl, gr2, ho⟩ := hrel
            by_cases hlt2 : j2 < nn
            · obtain ⟨x, hx⟩ : ∃ x, ys[j2]? = some x := ⟨_, List.getElem?_eq_getElem (by rw [HNN.out]; exact hlt2)⟩
              obtain ⟨kb, ko, rfl, k0, k1⟩ := HI.out.k2 hx
              have hkl := World.block_lt_of_cell? _ _ k0
              have k0 := (gr2.cell hkl).trans k0
              have k1 := (gr2.cell (p := ⟨kb, ko + j2 * 2 + 1, none⟩) hkl).trans k1
              obtain ⟨y, hy, hf, hrk, hyt, hyk⟩ := rowF_at (HMm.out x (List.mem_of_getElem? hx))
              have hsy : y.s.size ≤ 1048576 := hsz.out y hy
              have hl := fun (V : World) (hV : Below wr.heap.size wr V) => ((HF3.out.below gr2).below hV).look keyT73 Try.underlying59 (Try.zeroValue26 V) x.h
              rw [show fV cur x.x x.y = some (rwA y) by unfold fV; rw [hf]; rfl] at hl
              simp only [Option.getD_some, rwA, kv] at hl
              have hjn2 : (j2 : Int) < (nn : Int) := by omega
              have HT : Hid ((ys.take (j2 + 1)).map (rowF cur) = (ys.take j2).map (rowF cur) ++ [y]) := by show _ = _; rw [take_snoc hx, List.map_append, List.map_singleton, hrk]
              have hlen : ((ys.take j2).map (rowF cur)).length + 1 ≤ 100000000 := by rw [List.length_map, List.length_take]; omega
              have HL2 : Hid (∀ V, Below wr.heap.size wr V → _) := hl
              clear hx hl hf hrk hy
              generalize (ys.take j2).map (rowF cur) = os at ho HT hlen
              obtain ⟨yt, yk, yv, yst⟩ := y
              obtain ⟨xt, xk, xh⟩ := x
              dsimp only at hyt hyk HT k0 k1 HL2 hsy
              subst hyt
              subst hyk
              have hgs2 := gr2.size
              go_upto_region 18 with (fail)
              generalize hY : World.alloc _ _ = Y
              have gY : Below wr.heap.size wr Y := by rw [← hY]; go_grown
              have y0 : Y.cell? ⟨wr.heap.size, 0, none⟩ = some (.int .i64 yt) := by rw [← hY]; simp [go_sem]
              have y1 : Y.cell? ⟨wr.heap.size, 1, none⟩ = some (.int .i64 yk) := by rw [← hY]; simp [go_sem]
              have hl := HL2.out Y gY
              have hlow : ∀ k, u10.ownBlock = some k → w3.heap.size ≤ k := fun k hk => (ho.lt k hk).1
              have ho := ownsRow_below ho gY
              have gr2 := gr2.trans (gY.mono gr2.size)
              clear hY gY k0 k1 HL2
              generalize wr.heap.size = cb at y0 y1 ⊢
              go_wp2_with fail
              refine (ownRow_any yt yk yv yst _ hsy).mono ?_
              rintro e W5 ⟨rfl, g5⟩
              have ho := ownsRow_below ho g5
              have gr2 := gr2.trans (g5.mono gr2.size)
              have hgs5 := gr2.size
              clear g5 y0 y1 hl
              go_wp2_with (at_builtin; refine wpList_append_sl elW _ rfl _ _ rfl w3.heap.size _ os [⟨yt, yk, yv, yst⟩] (some ⟨W5.heap.size, 0, none⟩) 1 1 rfl rfl rfl (ownsRow_below ho (by go_grown)) (rs_one (enc := rwE) W5 ⟨yt, yk, yv, yst⟩ 26) hlen (by simp; omega) ?_)
              intro v' w' ho' hg' _
              have ho2 : w'.ownsRow w3.heap.size 26 4 v' ((ys.take (j2 + 1)).map (rowF cur)).length (flat rwE ((ys.take (j2 + 1)).map (rowF cur))) := by rw [HT.out, List.length_append]; exact ho'
              have gr3 : Below w3.heap.size w3 w' := Below.grown (gr2.trans ((((Below.refl _ W5).alloc (Nat.le_refl _) _)).mono gr2.size)) hg' (by simp; omega) hlow
              clear ho' hg' ho gr2
              go_wp2_with fail
              go_roundw
              case rel => exact ⟨j2 + 1, by omega, by go_num, gr3, ho2⟩
              case measure => simp [intOf]; omega
            · have hjn2 : ¬ (j2 : Int) < (nn : Int) := by omega
              have ho : wr.ownsRow w3.heap.size 26 4 u10 cur.length (flat rwE cur) := by
                have e : (ys.take j2).map (rowF cur) = cur := by rw [List.take_of_length_le (by rw [HNN.out]; omega)]; exact HAll.out
                rw [e] at ho; exact ho
              have hO4 := hO3.below gr2 hl3
              obtain ⟨ra, rc, rfl, _, _, _⟩ := SlIn.ofRow rwE_len ho
              rw [HCN.out]
              have HO : Hid (wr.ownsRow w3.heap.size 26 4 (.slice ra cn rc) cur.length (flat rwE cur)) := by rw [HCN.out] at ho; rw [HCN.out]; exact ho
              have g4 := g3'.trans (gr2.mono g3'.size)
              clear ho
              obtain ⟨c0, c1, f0, f1⟩ := hO4
              go_wp2_with fail
              refine bodyPost_ret (v := .agg #[.int .i64 0, .slice ra cn rc]) (by simp [results, Try.results8, go_sem, *]) rfl ?_
              refine ⟨_, by rw [HQ2.out], by go_grown, ?_⟩
              rw [HLc.out HQ2.out]
              exact ownsRow_base (ownsRow_setCell_below (ownsRow_setCell_below HO.out (by dsimp only; omega) _) (by dsimp only; omega) _) (by omega)
  · have HQ : Hid (acQ rs cs = q1) := by show _ = _; rw [← HQ1.out]; exact acQ_bad (by rw [HQ1.out]; exact h1)
    have d : (q1 != 0) = true := by simpa using h1
    obtain ⟨c0, c1, f0, f1⟩ := hO
    go_wp2_with fail
    refine bodyPost_ret (v := .agg #[.int .i64 q1, .slice none 0 0]) (by simp [results, Try.results8, go_sem, *]) rfl ?_
    exact AcPost.code HQ.out h1 (by go_grown)

end Go.Proofs.Ytmbllmhpnopbdaa
