/-
  The rows of table 0: both TablesIn.
-/
import Derived.Test.YtmnnkgcknkhgdaaGreatDoorOwn
import Derived.Test.YtmnnkgcknkhgdaaGreatDoorApn
import Derived.Test.YtmnnkgcknkhgdaaGreatDoorLon
namespace Go.Proofs.YtmnnkgcknkhgdaaGreatDoor
open Go.RowKit
set_option linter.unusedVariables false

theorem ownsRow_lit0 (w : World) (e size : Nat) : (w.alloc (.cells #[] e)).ownsRow w.heap.size e size (.slice (some ⟨w.heap.size, 0, none⟩) 0 0) 0 [] := by
  refine ⟨by simp, .inr ⟨w.heap.size, 0, #[], rfl, Nat.le_refl _, heap_alloc_new w _, Nat.le_refl _, by unfold maxLen; omega, by simp, by simp⟩⟩

theorem elW : ElT 24 26 rwE 4 40 where
  und := Tryz.underlying24
  inf := by obtain ⟨i, h1, h2, h3, h4⟩ := info35; exact ⟨i, _, h1, h2, h3, h4, rfl⟩
  len := rwE_len
  one := by intro x u hu; simp [rwE] at hu; rcases hu with rfl | rfl | rfl | rfl <;> rfl
  pos := by decide
  few := by decide

/-- The rows of table 0, in their order. -/
def tabL (rs : List Rw) : List Rw := rs.filter fun r => decide (r.t = 0)
theorem tabL_snoc {rs : List Rw} {j : Nat} {x : Rw} (h : rs[j]? = some x) : tabL (rs.take (j + 1)) = tabL (rs.take j) ++ (if x.t = 0 then [x] else []) := by
  unfold tabL
  rw [take_snoc h, List.filter_append]
  by_cases h0 : x.t = 0 <;> simp [h0]
theorem tabL_len (rs : List Rw) : (tabL rs).length ≤ rs.length := List.length_filter_le _ _
theorem rowsQ_few {rs : List Rw} (h : rowsQ rs = 0) : rs.length ≤ 60 := by
  unfold rowsQ at h
  split at h
  · omega
  · omega

structure RsO (w : World) (b : Nat) : Prop where
  c0 : w.cell? ⟨b, 0, none⟩ = some (.int .i64 0)
  c1 : w.cell? ⟨b, 1, none⟩ = some (.slice none 0 0)
  f0 : w.frozen? ⟨b, 0, none⟩ = false
  f1 : w.frozen? ⟨b, 1, none⟩ = false
theorem RsO.below {w w' : World} {b : Nat} (h : RsO w b) {B : Nat} (hb : Below B w w') (hl : b < B) : RsO w' b :=
  ⟨(hb.cell (p := ⟨b, 0, none⟩) hl).trans h.c0, (hb.cell (p := ⟨b, 1, none⟩) hl).trans h.c1, (hb.frozen (p := ⟨b, 0, none⟩) hl).trans h.f0, (hb.frozen (p := ⟨b, 1, none⟩) hl).trans h.f1⟩
theorem RsO.new (w : World) : RsO (w.alloc (.cells #[.int .i64 0, .slice none 0 0] 38)) w.heap.size :=
  ⟨by simp [go_sem], by simp [go_sem], by simp [go_sem], by simp [go_sem]⟩

/-- What TablesIn answers. -/
def tiL (rs : List Rw) : List Rw := if rowsQ rs = 0 then tabL rs else []
def TiPost (rs : List Rw) (w : World) (e : Ending) (w' : World) : Prop :=
  ∃ v, e = .returned (.agg #[.int .i64 (rowsQ rs), v]) ∧ Below w.heap.size w w' ∧ w'.ownsRow w.heap.size 26 4 v (tiL rs).length (flat rwE (tiL rs))

set_option maxRecDepth 20000 in
set_option maxHeartbeats 4000000 in
theorem l8Tables_any (a : Option Addr) (rs : List Rw) (n c : Nat) (w : World) (hn : rs.length = n) (hm : n ≤ 60) (hr : Rs rwE 4 w a rs) :
    Calls Tryz.prog 38 #[.slice a n c] w fun e w' => ∃ v, e = .returned v ∧ Below w.heap.size w w' ∧ w'.ownsRow w.heap.size 26 4 v (tabL rs).length (flat rwE (tabL rs)) := by
  have HN : Hid (rs.length = n) := hn
  have HR : Hid (∀ W, Below w.heap.size w W → Rs rwE 4 W a rs) := fun W hW => hr.below hW (Nat.le_refl _)
  have hL := ownsRow_lit0 w 26 4
  have gX : Below w.heap.size w (w.alloc (.cells #[] 26)) := by go_grown
  clear hn hr
  go_enter Tryz.func38, Tryz.ntmps38
  go_wp2_with fail
  go_loopw [4, 3] (fun i v wr => ∃ j : Nat, j ≤ n ∧ i = .int .i64 j ∧ Below w.heap.size w wr ∧ wr.ownsRow w.heap.size 26 4 v (tabL (rs.take j)).length (flat rwE (tabL (rs.take j)))) (fun i _ _ => n - (intOf i).toNat)
  case atStart => exact ⟨0, Nat.zero_le _, rfl, gX, hL⟩
  case round =>
    clear hL gX
    obtain ⟨j, hj, rfl, gr, ho⟩ := hrel
    by_cases hlt : j < n
    · obtain ⟨x, hx⟩ := at_lt (rs := rs) (i := j) (by rw [HN.out]; exact hlt)
      obtain ⟨b, off, rfl, X⟩ := (HR.out _ gr).row hx
      have hjn : (j : Int) < (n : Int) := by omega
      have HT : Hid (tabL (rs.take (j + 1)) = tabL (rs.take j) ++ (if x.t = 0 then [x] else [])) := tabL_snoc hx
      have hlen : (tabL (rs.take j)).length + 1 ≤ 100000000 := by
        have := tabL_len (rs.take j)
        rw [List.length_take] at this
        omega
      clear hx
      generalize tabL (rs.take j) = ys at ho HT hlen
      obtain ⟨xt, xk, xv, xs⟩ := x
      obtain ⟨x0, x1, x2, x3⟩ := X
      dsimp only at x0 x1 x2 x3 HT
      have hgs := gr.size
      have hlow : ∀ k, u3.ownBlock = some k → w.heap.size ≤ k := fun k hk => (ho.lt k hk).1
      by_cases h0 : xt = 0
      · subst h0
        go_wp2_with (at_builtin; refine wpList_append_sl elW _ rfl _ _ rfl w.heap.size _ ys [⟨0, xk, xv, xs⟩] (some ⟨wr.heap.size, 0, none⟩) 1 1 rfl rfl rfl (ownsRow_below ho (by go_grown)) (rs_one (enc := rwE) wr ⟨0, xk, xv, xs⟩ 26) hlen (by simp; omega) ?_)
        intro v' w' ho' hg' _
        have ho2 : w'.ownsRow w.heap.size 26 4 v' (tabL (rs.take (j + 1))).length (flat rwE (tabL (rs.take (j + 1)))) := by rw [HT.out]; simp only [if_true]; rw [List.length_append]; exact ho'
        have gr2 : Below w.heap.size w w' := Below.grown (gr.trans ((((Below.refl _ wr).alloc (Nat.le_refl _) _)).mono gr.size)) hg' (by simp; omega) hlow
        clear ho' hg' ho x0 x1 x2 x3 gr
        go_wp2_with fail
        go_roundw
        case rel => exact ⟨j + 1, by omega, by go_num, gr2, ho2⟩
        case measure => simp [intOf]; omega
      · have ho2 : wr.ownsRow w.heap.size 26 4 u3 (tabL (rs.take (j + 1))).length (flat rwE (tabL (rs.take (j + 1)))) := by rw [HT.out, if_neg h0, List.append_nil]; exact ho
        clear ho
        go_wp2_with fail
        go_roundw
        case rel => exact ⟨j + 1, by omega, by go_num, gr, ho2⟩
        case measure => simp [intOf]; omega
    · have HE : Hid (tabL (rs.take j) = tabL rs) := by show _ = _; rw [List.take_of_length_le (by rw [HN.out]; omega)]
      rw [HE.out] at ho
      have hjm : ¬ (j : Int) < (n : Int) := by omega
      go_wp2_with fail
      go_ret
      exact ⟨_, rfl, gr, ho⟩

set_option maxRecDepth 20000 in
set_option maxHeartbeats 4000000 in
theorem specTablesIn_any (a : Option Addr) (rs : List Rw) (n c : Nat) (w : World) (hn : rs.length = n) (hm : n ≤ 9223372036854775807) (hs : ∀ r ∈ rs, r.s.size ≤ maxLen) (hr : Rs rwE 4 w a rs) :
    Calls Tryz.prog 12 #[.slice a n c] w fun e w' => TiPost rs w e w' := by
  have HN : Hid (rs.length = n) := hn
  have HR : Hid (∀ W, Below w.heap.size w W → Rs rwE 4 W a rs) := fun W hW => hr.below hW (Nat.le_refl _)
  have HS : Hid (∀ r ∈ rs, r.s.size ≤ maxLen) := hs
  obtain ⟨q, hq⟩ : ∃ q, q = rowsQ rs := ⟨_, rfl⟩
  have HQ : Hid (rowsQ rs = q) := hq.symm
  clear hn hr hs hq
  have hO := RsO.new w
  have gX : Below w.heap.size w (w.alloc (.cells #[.int .i64 0, .slice none 0 0] 38)) := by go_grown
  have hlX : w.heap.size < (w.alloc (.cells #[.int .i64 0, .slice none 0 0] 38)).heap.size := by simp
  obtain ⟨X, hX0⟩ : ∃ X, w.alloc (.cells #[.int .i64 0, .slice none 0 0] 38) = X := ⟨_, rfl⟩
  rw [hX0] at hO gX hlX
  go_enter Tryz.func12, Tryz.ntmps12
  go_wp2_with fail
  refine (l6Rows_any a rs n c _ HN.out hm HS.out (HR.out _ gX)).mono ?_
  rintro e w1 ⟨rfl, g1⟩
  have hO := hO.below g1 hlX
  have hlX := Nat.lt_of_lt_of_le hlX g1.size
  have g := gX.trans (g1.mono gX.size)
  rw [HQ.out]
  clear g1 gX hX0
  by_cases hq0 : q = 0
  · subst hq0
    have hn60 : n ≤ 60 := by rw [← HN.out]; exact rowsQ_few HQ.out
    have HL : Hid (tiL rs = tabL rs) := by show _ = _; unfold tiL; rw [if_pos HQ.out]
    go_wp2_with fail
    refine (l8Tables_any a rs n c _ HN.out hn60 (HR.out _ g)).mono ?_
    rintro e w2 ⟨v, rfl, g2, ho⟩
    have hO := hO.below g2 hlX
    have hs2 := g2.size
    have hsg := g.size
    have g := g.trans (g2.mono g.size)
    clear g2
    obtain ⟨ra, rc, rfl, _, _, _⟩ := SlIn.ofRow rwE_len ho
    obtain ⟨rn, hrn⟩ : ∃ rn, rn = (tabL rs).length := ⟨_, rfl⟩
    rw [← hrn] at ho ⊢
    have HRN : Hid (rn = (tabL rs).length) := hrn
    clear hrn
    obtain ⟨c0, c1, f0, f1⟩ := hO
    go_wp2_with fail
    refine bodyPost_ret (v := .agg #[.int .i64 0, .slice ra rn rc]) (by simp [results, Tryz.results12, go_sem, *]) rfl ?_
    refine ⟨_, by rw [HQ.out], by go_grown, ?_⟩
    rw [HL.out, ← HRN.out]
    exact ownsRow_base (ownsRow_setCell_below (ownsRow_setCell_below ho (by dsimp only; omega) _) (by dsimp only; omega) _) (by omega)
  · have d : (q != 0) = true := by simpa using hq0
    have HL : Hid (tiL rs = []) := by show _ = _; unfold tiL; rw [if_neg (by rw [HQ.out]; exact hq0)]
    obtain ⟨c0, c1, f0, f1⟩ := hO
    go_wp2_with fail
    refine bodyPost_ret (v := .agg #[.int .i64 q, .slice none 0 0]) (by simp [results, Tryz.results12, go_sem, *]) rfl ?_
    refine ⟨_, by rw [HQ.out], by go_grown, ?_⟩
    rw [HL.out]
    exact ownsRow_nil _ _ _ _

set_option maxRecDepth 20000 in
set_option maxHeartbeats 4000000 in
theorem implTablesIn_any (a : Option Addr) (rs : List Rw) (n c : Nat) (w : World) (hn : rs.length = n) (hm : n ≤ 9223372036854775807) (hs : ∀ r ∈ rs, r.s.size ≤ 1048576) (hr : Rs rwE 4 w a rs) :
    Calls Tryz.prog 10 #[.slice a n c] w fun e w' => TiPost rs w e w' := by
  have HN : Hid (rs.length = n) := hn
  have HR : Hid (∀ W, Below w.heap.size w W → Rs rwE 4 W a rs) := fun W hW => hr.below hW (Nat.le_refl _)
  have HS : Hid (∀ r ∈ rs, r.s.size ≤ 1048576) := hs
  obtain ⟨q, hq⟩ : ∃ q, q = rowsQ rs := ⟨_, rfl⟩
  have HQ : Hid (rowsQ rs = q) := hq.symm
  clear hn hr hs hq
  have hO := RsO.new w
  have gX : Below w.heap.size w (w.alloc (.cells #[.int .i64 0, .slice none 0 0] 38)) := by go_grown
  have hlX : w.heap.size < (w.alloc (.cells #[.int .i64 0, .slice none 0 0] 38)).heap.size := by simp
  obtain ⟨X, hX0⟩ : ∃ X, w.alloc (.cells #[.int .i64 0, .slice none 0 0] 38) = X := ⟨_, rfl⟩
  rw [hX0] at hO gX hlX
  go_enter Tryz.func10, Tryz.ntmps10
  go_wp2_with fail
  refine (implRowsFault_any a rs n c _ HN.out hm (fun r h => Nat.le_trans (HS.out r h) (by unfold maxLen; omega)) (HR.out _ gX)).mono ?_
  rintro e w1 ⟨rfl, g1⟩
  have hO := hO.below g1 hlX
  have hlX := Nat.lt_of_lt_of_le hlX g1.size
  have g := gX.trans (g1.mono gX.size)
  rw [HQ.out]
  clear g1 gX hX0
  by_cases hq0 : q = 0
  · subst hq0
    have hn60 : n ≤ 60 := by rw [← HN.out]; exact rowsQ_few HQ.out
    have HL : Hid (tiL rs = tabL rs) := by show _ = _; unfold tiL; rw [if_pos HQ.out]
    have hR1 := HR.out _ g
    have hsg := g.size
    have HR1 : Hid (∀ W, Below w1.heap.size w1 W → Rs rwE 4 W a rs) := fun W hW => hR1.below hW (Nat.le_refl _)
    clear hR1
    go_wp2_with fail
    go_loopw [15, 4] (fun i v wr => ∃ j : Nat, j ≤ n ∧ i = .int .i64 j ∧ Below w1.heap.size w1 wr ∧ wr.ownsRow w1.heap.size 26 4 v (tabL (rs.take j)).length (flat rwE (tabL (rs.take j)))) (fun i _ _ => n - (intOf i).toNat)
    case atStart => exact ⟨0, Nat.zero_le _, rfl, Below.refl _ _, ownsRow_nil _ _ _ _⟩
    case round =>
      obtain ⟨j, hj, rfl, gr, ho⟩ := hrel
      by_cases hlt : j < n
      · obtain ⟨x, hx⟩ := at_lt (rs := rs) (i := j) (by rw [HN.out]; exact hlt)
        obtain ⟨b, off, rfl, X'⟩ := (HR1.out _ gr).row hx
        have hjn : (j : Int) < (n : Int) := by omega
        have HT : Hid (tabL (rs.take (j + 1)) = tabL (rs.take j) ++ (if x.t = 0 then [x] else [])) := tabL_snoc hx
        have hxs := HS.out x (List.mem_of_getElem? hx)
        have hlen : (tabL (rs.take j)).length + 1 ≤ 100000000 := by
          have := tabL_len (rs.take j)
          rw [List.length_take] at this
          omega
        clear hx
        generalize tabL (rs.take j) = ys at ho HT hlen
        obtain ⟨xt, xk, xv, xs⟩ := x
        obtain ⟨x0, x1, x2, x3⟩ := X'
        dsimp only at x0 x1 x2 x3 HT hxs
        have hgs := gr.size
        have hlow : ∀ k, u4.ownBlock = some k → w1.heap.size ≤ k := fun k hk => (ho.lt k hk).1
        go_upto_region 8 with (fail)
        generalize hY : World.alloc _ _ = Y
        have gY : Below wr.heap.size wr Y := by rw [← hY]; go_grown
        have C : RowC Y wr.heap.size 0 ⟨xt, xk, xv, xs⟩ := by rw [← hY]; exact ⟨by simp [go_sem], by simp [go_sem], by simp [go_sem], by simp [go_sem]⟩
        have hlC := C.lt
        have ho := ownsRow_below ho gY
        have gr := gr.trans (gY.mono gr.size)
        clear hY gY x0 x1 x2 x3
        generalize wr.heap.size = cb at C hlC hgs ⊢
        obtain ⟨x0, x1, x2, x3⟩ := C
        dsimp only at x0 x1 x2 x3
        go_wp2_with fail
        refine (isTelling_any xt xk xv xs _).mono ?_
        rintro e Y2 ⟨rfl, g2⟩
        have C : RowC Y2 cb 0 ⟨xt, xk, xv, xs⟩ := RowC.below (w := Y) ⟨x0, x1, x2, x3⟩ g2 hlC
        have ho := ownsRow_below ho g2
        have hlC := Nat.lt_of_lt_of_le hlC g2.size
        have gr := gr.trans (g2.mono gr.size)
        clear g2 x0 x1 x2 x3
        obtain ⟨x0, x1, x2, x3⟩ := C
        dsimp only at x0 x1 x2 x3
        by_cases h0 : xt = 0
        · subst h0
          have hd : decide ((0 : Int) = 0) = true := rfl
          rw [hd]
          go_wp2_with fail
          refine (ownRow_any 0 xk xv xs _ hxs).mono ?_
          rintro e Y3 ⟨rfl, g3⟩
          have ho := ownsRow_below ho g3
          have gr := gr.trans (g3.mono gr.size)
          have hgs3 := gr.size
          clear g3 x0 x1 x2 x3
          go_wp2_with (at_builtin; refine wpList_append_sl elW _ rfl _ _ rfl w1.heap.size _ ys [⟨0, xk, xv, xs⟩] (some ⟨Y3.heap.size, 0, none⟩) 1 1 rfl rfl rfl (ownsRow_below ho (by go_grown)) (rs_one (enc := rwE) Y3 ⟨0, xk, xv, xs⟩ 26) hlen (by simp; omega) ?_)
          intro v' w' ho' hg' _
          have ho2 : w'.ownsRow w1.heap.size 26 4 v' (tabL (rs.take (j + 1))).length (flat rwE (tabL (rs.take (j + 1)))) := by rw [HT.out]; simp only [if_true]; rw [List.length_append]; exact ho'
          have gr2 : Below w1.heap.size w1 w' := Below.grown (gr.trans ((((Below.refl _ Y3).alloc (Nat.le_refl _) _)).mono gr.size)) hg' (by simp; omega) hlow
          clear ho' hg' ho gr
          go_wp2_with fail
          go_roundw
          case rel => exact ⟨j + 1, by omega, by go_num, gr2, ho2⟩
          case measure => simp [intOf]; omega
        · have hd : decide (xt = 0) = false := by simpa using h0
          rw [hd]
          have ho2 : Y2.ownsRow w1.heap.size 26 4 u4 (tabL (rs.take (j + 1))).length (flat rwE (tabL (rs.take (j + 1)))) := by rw [HT.out, if_neg h0, List.append_nil]; exact ho
          clear ho
          go_wp2_with fail
          go_roundw
          case rel => exact ⟨j + 1, by omega, by go_num, gr, ho2⟩
          case measure => simp [intOf]; omega
      · have HE : Hid (tabL (rs.take j) = tabL rs) := by show _ = _; rw [List.take_of_length_le (by rw [HN.out]; omega)]
        rw [HE.out] at ho
        have hjm : ¬ (j : Int) < (n : Int) := by omega
        have hO := hO.below gr hlX
        have hgs := gr.size
        have g := g.trans (gr.mono g.size)
        clear gr
        obtain ⟨ra, rc, rfl, _, _, _⟩ := SlIn.ofRow rwE_len ho
        obtain ⟨rn, hrn⟩ : ∃ rn, rn = (tabL rs).length := ⟨_, rfl⟩
        rw [← hrn] at ho ⊢
        have HRN : Hid (rn = (tabL rs).length) := hrn
        clear hrn
        obtain ⟨c0, c1, f0, f1⟩ := hO
        go_wp2_with fail
        refine bodyPost_ret (v := .agg #[.int .i64 0, .slice ra rn rc]) (by simp [results, Tryz.results10, go_sem, *]) rfl ?_
        refine ⟨_, by rw [HQ.out], by go_grown, ?_⟩
        rw [HL.out, ← HRN.out]
        exact ownsRow_base (ownsRow_setCell_below (ownsRow_setCell_below ho (by dsimp only; omega) _) (by dsimp only; omega) _) (by omega)
  · have d : (q != 0) = true := by simpa using hq0
    have HL : Hid (tiL rs = []) := by show _ = _; unfold tiL; rw [if_neg (by rw [HQ.out]; exact hq0)]
    obtain ⟨c0, c1, f0, f1⟩ := hO
    go_wp2_with fail
    refine bodyPost_ret (v := .agg #[.int .i64 q, .slice none 0 0]) (by simp [results, Tryz.results10, go_sem, *]) rfl ?_
    refine ⟨_, by rw [HQ.out], by go_grown, ?_⟩
    rw [HL.out]
    exact ownsRow_nil _ _ _ _

end Go.Proofs.YtmnnkgcknkhgdaaGreatDoor

