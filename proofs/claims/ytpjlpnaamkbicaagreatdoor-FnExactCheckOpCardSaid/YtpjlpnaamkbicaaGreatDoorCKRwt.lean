/-
  Rows of one's own memory: toRowS, eqRowS.
-/
import Derived.Test.YtpjlpnaamkbicaaGreatDoorCKUnp

namespace Go.Proofs.YtpjlpnaamkbicaaGreatDoor
open Go.RowKit
set_option linter.unusedVariables false

/-- Four cells written. -/
def put4 (w : World) (b o : Nat) (r : Rw) : World := (((w.setCell ⟨b, o, none⟩ (.int .i64 r.t)).setCell ⟨b, o + 1, none⟩ (.int .i64 r.k)).setCell ⟨b, o + 2, none⟩ (.int .i64 r.v)).setCell ⟨b, o + 3, none⟩ (.string r.s)

theorem cell_off {w : World} {b o p : Nat} {v : Value} (h : o ≠ p) : (w.setCell ⟨b, p, none⟩ v).cell? ⟨b, o, none⟩ = w.cell? ⟨b, o, none⟩ :=
  World.cell?_setCell_other _ _ _ _ (fun e => h (by have := congrArg Addr.off e; simpa using this.symm))

theorem put4_same {w : World} {b o : Nat} {r : Rw} {v0 v1 v2 v3 : Value} (h0 : w.cell? ⟨b, o, none⟩ = some v0) (h1 : w.cell? ⟨b, o + 1, none⟩ = some v1) (h2 : w.cell? ⟨b, o + 2, none⟩ = some v2) (h3 : w.cell? ⟨b, o + 3, none⟩ = some v3) : RowC (put4 w b o r) b o r := by
  unfold put4
  refine ⟨?_, ?_, ?_, ?_⟩
  · rw [cell_off (by omega), cell_off (by omega), cell_off (by omega)]
    exact World.cell?_setCell_same _ _ _ h0
  · rw [cell_off (by omega), cell_off (by omega)]
    exact World.cell?_setCell_same _ _ _ (by rw [cell_off (by omega)]; exact h1)
  · rw [cell_off (by omega)]
    exact World.cell?_setCell_same _ _ _ (by rw [cell_off (by omega), cell_off (by omega)]; exact h2)
  · exact World.cell?_setCell_same _ _ _ (by rw [cell_off (by omega), cell_off (by omega), cell_off (by omega)]; exact h3)

theorem put4_other {w : World} {b o p : Nat} {r : Rw} (h : p < o ∨ o + 4 ≤ p) : (put4 w b o r).cell? ⟨b, p, none⟩ = w.cell? ⟨b, p, none⟩ := by
  unfold put4
  rw [cell_off (by omega), cell_off (by omega), cell_off (by omega), cell_off (by omega)]

theorem put4_frozen {w : World} {b o : Nat} {r : Rw} (p : Addr) : (put4 w b o r).frozen? p = w.frozen? p := by
  unfold put4
  rw [World.frozen?_setCell, World.frozen?_setCell, World.frozen?_setCell, World.frozen?_setCell]

theorem RowC.cells {w : World} {b o : Nat} {r : Rw} (h : RowC w b o r) : ∀ j u, (rwE r)[j]? = some u → w.cell? ⟨b, o + j, none⟩ = some u := by
  intro j u hu
  match j, hu with
  | 0, hu => simp [rwE] at hu; subst hu; exact h.c0
  | 1, hu => simp [rwE] at hu; subst hu; exact h.c1
  | 2, hu => simp [rwE] at hu; subst hu; exact h.c2
  | 3, hu => simp [rwE] at hu; subst hu; exact h.c3
  | j + 4, hu => simp [rwE] at hu

theorem info35' : (Tryz.prog.info? 31).map (fun i => (i.zero, i.size, i.bytes)) = some (some (.agg #[.int .i64 0, .int .i64 0, .int .i64 0, .string ⟨#[]⟩]), 4, 40) := by kernel_rfl
theorem info35 : ∃ i, Tryz.prog.info? 31 = some i ∧ i.zero = some (.agg #[.int .i64 0, .int .i64 0, .int .i64 0, .string ⟨#[]⟩]) ∧ i.size = 4 ∧ i.bytes = 40 := by
  have h := info35'
  cases hi : Tryz.prog.info? 31 with
  | none => rw [hi] at h; simp at h
  | some i => rw [hi] at h; simp at h; exact ⟨i, rfl, h.1, h.2.1, h.2.2⟩

/-- Block g holds n rows, of which the first k are there. -/
structure PartR (w : World) (g n k : Nat) (rs : List Rw) : Prop where
  c : ∀ i r, i < k → rs[i]? = some r → RowC w g (i * 4) r
  e : ∀ o, o < n * 4 → ∃ v, w.cell? ⟨g, o, none⟩ = some v
  f : ∀ o, w.frozen? ⟨g, o, none⟩ = false

theorem PartR.below {w w' : World} {g n k : Nat} {rs : List Rw} (h : PartR w g n k rs) (hb : Below w.heap.size w w') (hg : g < w.heap.size) : PartR w' g n k rs :=
  ⟨fun i r hi hr => (h.c i r hi hr).below hb hg, fun o ho => by obtain ⟨v, hv⟩ := h.e o ho; exact ⟨v, (hb.cell (p := ⟨g, _, none⟩) hg).trans hv⟩, fun o => (hb.frozen (p := ⟨g, _, none⟩) hg).trans (h.f o)⟩

theorem PartR.step {w : World} {g n k : Nat} {rs : List Rw} {r : Rw} (h : PartR w g n k rs) (hk : k < n) (hr : rs[k]? = some r) : PartR (put4 w g (k * 4) r) g n (k + 1) rs := by
  obtain ⟨v0, e0⟩ := h.e (k * 4) (by omega)
  obtain ⟨v1, e1⟩ := h.e (k * 4 + 1) (by omega)
  obtain ⟨v2, e2⟩ := h.e (k * 4 + 2) (by omega)
  obtain ⟨v3, e3⟩ := h.e (k * 4 + 3) (by omega)
  have hs : RowC (put4 w g (k * 4) r) g (k * 4) r := put4_same e0 e1 e2 e3
  refine ⟨fun i r' hi hr' => ?_, fun o ho => ?_, fun o => by rw [put4_frozen]; exact h.f o⟩
  · by_cases e : i = k
    · subst e
      rw [hr] at hr'
      cases hr'
      exact hs
    · obtain ⟨c0, c1, c2, c3⟩ := h.c i r' (by omega) hr'
      exact ⟨by rw [put4_other (by omega)]; exact c0, by rw [put4_other (by omega)]; exact c1, by rw [put4_other (by omega)]; exact c2, by rw [put4_other (by omega)]; exact c3⟩
  · by_cases e : k * 4 ≤ o ∧ o < k * 4 + 4
    · have : o = k * 4 ∨ o = k * 4 + 1 ∨ o = k * 4 + 2 ∨ o = k * 4 + 3 := by omega
      rcases this with rfl | rfl | rfl | rfl
      · exact ⟨_, hs.c0⟩
      · exact ⟨_, hs.c1⟩
      · exact ⟨_, hs.c2⟩
      · exact ⟨_, hs.c3⟩
    · rw [put4_other (by omega)]; exact h.e o ho

theorem PartR.own {w : World} {g n : Nat} {rs : List Rw} (h : PartR w g n n rs) (hn : rs.length = n) {lo hi : Nat} (hl : lo ≤ g) (hh : g < hi) : SlIn rwE 4 lo hi w (some ⟨g, 0, none⟩) rs := by
  refine .inr ⟨g, 0, rfl, hl, hh, fun i r hr j u hu => ?_⟩
  have hi : i < n := by rw [← hn]; exact (List.getElem?_eq_some_iff.1 hr).1
  rw [Nat.zero_add]
  exact ⟨(h.c i r hi hr).cells j u hu, h.f _⟩

set_option maxHeartbeats 1000000 in
theorem toRowS_any (a : Option Addr) (rs : List Rw) (n c : Nat) (w : World) (hn : rs.length = n) (hm : n ≤ 1048576) (hr : Rs rwE 4 w a rs) :
    Calls Tryz.prog 8 #[.slice a n c] w fun e w' => e = .returned (.slice (some ⟨w.heap.size, 0, none⟩) n n) ∧ Below w.heap.size w w' ∧ SlIn rwE 4 w.heap.size w'.heap.size w' (some ⟨w.heap.size, 0, none⟩) rs := by
  obtain ⟨i0, hi, hz0, hz1, hz2⟩ := info35
  have HN : Hid (rs.length = n) := hn
  have HR : Hid (Rs rwE 4 w a rs) := hr
  clear hn hr
  go_enter Tryz.func8, Tryz.ntmps8
  go_wp2_with (at_make; refine wpList_make_full _ rfl _ _ 37 rfl w.heap.size 31 i0 (.agg #[.int .i64 0, .int .i64 0, .int .i64 0, .string ⟨#[]⟩]) 4 Tryz.underlying37 hi hz0 hz1 .i64 .i64 _ _ n rfl rfl rfl rfl ?c1 ?c2 (Nat.le_refl _) ?_)
  case c1 => rw [hz2]; omega
  case c2 => unfold maxLen; omega
  intro w1 hown hg
  have hB : Below w.heap.size w w1 := Below.grown (Below.refl _ _) hg (Nat.le_refl _) (fun k hk => by cases hk)
  have hlt1 : w.heap.size < w1.heap.size := (hown.lt w.heap.size (by simp [Value.ownBlock])).2
  have hP : PartR w1 w.heap.size n 0 rs := ⟨fun i r hi => absurd hi (Nat.not_lt_zero _), fun o ho => ⟨_, by rw [hown.cellAt o (by omega)]; exact List.getElem?_eq_getElem (by simpa [madeCells] using ho)⟩, fun o => hown.frozenAt _⟩
  clear hown hg hi hz0 hz1 hz2
  by_cases h0 : n = 0
  · subst h0
    go_wp2_with fail
    go_rounds 1
    go_ret
    exact ⟨rfl, hB, hP.own HN.out (Nat.le_refl _) hlt1⟩
  obtain ⟨b, off, ha⟩ : ∃ b off, a = some ⟨b, off, none⟩ := by
    obtain ⟨r, hr⟩ := at_lt (rs := rs) (i := 0) (by rw [HN.out]; omega)
    obtain ⟨b, off, ha, _⟩ := HR.out.row hr
    exact ⟨b, off, ha⟩
  subst ha
  have hb0 : b < w.heap.size := by
    obtain ⟨r, hr⟩ := at_lt (rs := rs) (i := 0) (by rw [HN.out]; omega)
    exact World.block_lt_of_cell? w _ (HR.out.rowAt hr).c0
  go_wp2_with fail
  go_loopw [4] (fun i wr => ∃ k : Nat, k ≤ n ∧ i = .int .i64 k ∧ Below w.heap.size w wr ∧ PartR wr w.heap.size n k rs ∧ w.heap.size < wr.heap.size) (fun i _ => n - (intOf i).toNat)
  case atStart => exact ⟨0, Nat.zero_le _, rfl, hB, hP, hlt1⟩
  case round =>
    obtain ⟨k, hk, rfl, g, hP, hlt⟩ := hrel
    clear hB hlt1
    by_cases hlt2 : k < n
    · obtain ⟨r, hr⟩ := at_lt (rs := rs) (i := k) (by rw [HN.out]; exact hlt2)
      obtain ⟨e0, e1, e2, e3⟩ := (HR.out.rowAt hr).below g hb0
      have HK : Hid (rs[k]? = some r) := hr
      clear hr
      have hkn : (k : Int) < (n : Int) := by omega
      obtain ⟨rt, rk, rv, rs'⟩ := r
      dsimp only at e0 e1 e2 e3
      go_wp2_with fail
      refine (toRow_any rt rk rv rs' _).mono ?_
      rintro e w' ⟨rfl, g'⟩
      have hP := hP.below g' hlt
      have g2 : Below w.heap.size w w' := g.trans (g'.mono g.size)
      have hlt' : w.heap.size < w'.heap.size := by have := g'.size; omega
      have hP' := hP.step hlt2 HK.out
      obtain ⟨v0, r0⟩ := hP.e (k * 4) (by omega)
      obtain ⟨v1, r1⟩ := hP.e (k * 4 + 1) (by omega)
      obtain ⟨v2, r2⟩ := hP.e (k * 4 + 2) (by omega)
      obtain ⟨v3, r3⟩ := hP.e (k * 4 + 3) (by omega)
      have f0 := hP.f (k * 4)
      have f1 := hP.f (k * 4 + 1)
      have f2 := hP.f (k * 4 + 2)
      have f3 := hP.f (k * 4 + 3)
      clear g g' hP e0 e1 e2 e3 HK
      go_wp2_with fail
      go_roundw
      case rel => exact ⟨k + 1, by omega, by go_num, by go_grown, hP', by simp; omega⟩
      case measure => simp [intOf]; omega
    · have e : k = n := by omega
      subst e
      go_wp2_with fail
      go_ret
      exact ⟨rfl, g, hP.own HN.out (Nat.le_refl _) hlt⟩

set_option maxHeartbeats 1000000 in
theorem eqRowS_same (a a' : Option Addr) (rs : List Rw) (n c d : Nat) (w : World) (hn : rs.length = n) (hm : n ≤ 9223372036854775807) (hx : Rs rwE 4 w a rs) (hy : Rs rwE 4 w a' rs) :
    Calls Tryz.prog 13 #[.slice a n c, .slice a' n d] w fun e w' => e = .returned (.bool true) ∧ Below w.heap.size w w' := by
  have HN : Hid (rs.length = n) := hn
  have HX : Hid (Rs rwE 4 w a rs) := hx
  have HY : Hid (Rs rwE 4 w a' rs) := hy
  clear hn hx hy
  go_enter Tryz.func13, Tryz.ntmps13
  go_wp2_with fail
  go_loopw [5] (fun i wr => ∃ k : Nat, k ≤ n ∧ i = .int .i64 k ∧ Below w.heap.size w wr) (fun i _ => n - (intOf i).toNat)
  case atStart => exact ⟨0, Nat.zero_le _, rfl, Below.refl _ _⟩
  case round =>
    obtain ⟨k, hk, rfl, g⟩ := hrel
    by_cases hlt : k < n
    · have hkn : (k : Int) < (n : Int) := by omega
      obtain ⟨r, hr⟩ := at_lt (rs := rs) (i := k) (by rw [HN.out]; exact hlt)
      obtain ⟨x, xo, rfl, X⟩ := HX.out.row hr
      obtain ⟨y, yo, rfl, Y⟩ := HY.out.row hr
      have X := X.below g (World.block_lt_of_cell? w _ X.c0)
      have Y := Y.below g (World.block_lt_of_cell? w _ Y.c0)
      clear hr
      obtain ⟨rt, rk, rv, rs'⟩ := r
      obtain ⟨x0, x1, x2, x3⟩ := X
      obtain ⟨y0, y1, y2, y3⟩ := Y
      dsimp only at x0 x1 x2 x3 y0 y1 y2 y3
      have HS : Hid (∀ V, Below wr.heap.size wr V → V.cell? ⟨x, xo + k * 4, none⟩ = some (.int .i64 rt) ∧ V.cell? ⟨x, xo + k * 4 + 1, none⟩ = some (.int .i64 rk) ∧ V.cell? ⟨x, xo + k * 4 + 2, none⟩ = some (.int .i64 rv) ∧ V.cell? ⟨x, xo + k * 4 + 3, none⟩ = some (.string rs') ∧ V.cell? ⟨y, yo + k * 4, none⟩ = some (.int .i64 rt) ∧ V.cell? ⟨y, yo + k * 4 + 1, none⟩ = some (.int .i64 rk) ∧ V.cell? ⟨y, yo + k * 4 + 2, none⟩ = some (.int .i64 rv) ∧ V.cell? ⟨y, yo + k * 4 + 3, none⟩ = some (.string rs')) := fun V hV =>
        ⟨(hV.cell (World.block_lt_of_cell? wr _ x0)).trans x0, (hV.cell (World.block_lt_of_cell? wr _ x1)).trans x1, (hV.cell (World.block_lt_of_cell? wr _ x2)).trans x2, (hV.cell (World.block_lt_of_cell? wr _ x3)).trans x3, (hV.cell (World.block_lt_of_cell? wr _ y0)).trans y0, (hV.cell (World.block_lt_of_cell? wr _ y1)).trans y1, (hV.cell (World.block_lt_of_cell? wr _ y2)).trans y2, (hV.cell (World.block_lt_of_cell? wr _ y3)).trans y3⟩
      go_wp2_with fail
      go_region_held (fun V => Below wr.heap.size wr V ∧ V.cell? ⟨x, xo + k * 4, none⟩ = some (.int .i64 rt) ∧ V.cell? ⟨x, xo + k * 4 + 1, none⟩ = some (.int .i64 rk) ∧ V.cell? ⟨x, xo + k * 4 + 2, none⟩ = some (.int .i64 rv) ∧ V.cell? ⟨x, xo + k * 4 + 3, none⟩ = some (.string rs') ∧ V.cell? ⟨y, yo + k * 4, none⟩ = some (.int .i64 rt) ∧ V.cell? ⟨y, yo + k * 4 + 1, none⟩ = some (.int .i64 rk) ∧ V.cell? ⟨y, yo + k * 4 + 2, none⟩ = some (.int .i64 rv) ∧ V.cell? ⟨y, yo + k * 4 + 3, none⟩ = some (.string rs')) (first | exact eqKeepD HS.out (by assumption) | exact eqKeep HS.out (Below.refl _ _) (by go_grown)) (first | (go_at_call 33; refine (eqRow_same rt rk rv rs' _).mono ?_; rintro e w' ⟨rfl, hb⟩))
      rename_i hV
      have g : Below w.heap.size w w' := g.trans (hV.1.mono g.size)
      clear hV x0 x1 x2 x3 y0 y1 y2 y3 HS hb
      go_wp2_with fail
      go_roundw
      case rel => exact ⟨k + 1, by omega, by go_num, g⟩
      case measure => simp [intOf]; omega
    · go_wp2_with fail
      go_ret
      exact ⟨rfl, g⟩

end Go.Proofs.YtpjlpnaamkbicaaGreatDoor
