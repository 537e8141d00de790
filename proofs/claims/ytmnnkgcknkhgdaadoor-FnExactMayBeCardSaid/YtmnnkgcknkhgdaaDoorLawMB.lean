/-
  The law FnExactMayBe answers true.
-/
import Derived.Test.YtmnnkgcknkhgdaaDoorMbs
import Derived.Test.YtmnnkgcknkhgdaaDoorChr
import Derived.Test.YtmnnkgcknkhgdaaDoorRdw
namespace Go.Proofs.YtmnnkgcknkhgdaaDoor
open Go.ChangeShapes Go.WideShapes Go.RowKit
set_option linter.unusedVariables false

def chA (x : Chg) : Value := .agg #[.bool x.was, .int .i64 x.b.t, .int .i64 x.b.k, .int .i64 x.b.v, .string x.b.s, .bool x.is, .int .i64 x.a.t, .int .i64 x.a.k, .int .i64 x.a.v, .string x.a.s]

theorem ten {α : Type} (xs : List α) (h : xs.length = 10) : ∃ a b c d e f g h' i j, xs = [a, b, c, d, e, f, g, h', i, j] := by
  match xs, h with
  | [a, b, c, d, e, f, g, h', i, j], _ => exact ⟨a, b, c, d, e, f, g, h', i, j, rfl⟩
theorem open_row4 {H : Type} {enc : TypeId × Value → H} {W : World} {base : Nat} {held : Bool} {fuel : Nat} {v0 v1 v2 v3 : Value} {x : DataW H × List MemPlace}
    (h2 : DataW.trod enc Tryd.prog W base (fun _ => true) held fuel 33 [v0, v1, v2, v3] = some x) : ∃ q : Rw, v0 = .int .i64 q.t ∧ v1 = .int .i64 q.k ∧ v2 = .int .i64 q.v ∧ v3 = .string q.s ∧ q.s.size ≤ maxLen := by
  obtain ⟨xs, k, hk, hxy, _, hxl, hf⟩ := DataW.trod_struct Tryd.underlying33 h2
  have hx4 : xs.length = 4 := hxl
  clear hxl
  obtain ⟨y0, y1, y2, y3, rfl⟩ := four xs hx4
  have g0 := hf 0 _ rfl
  have g1 := hf 1 _ rfl
  have g2 := hf 2 _ rfl
  have g3 := hf 3 _ rfl
  have c2 : Tryd.prog.cellsOf 2 = 1 := by kernel_rfl
  have c9 : Tryd.prog.cellsOf 9 = 1 := by kernel_rfl
  simp [c2, c9] at g0 g1 g2 g3
  obtain ⟨t0, e0, _, w0⟩ := DataW.trod_int Tryd.underlying2 g0
  obtain ⟨t1, e1, _, w1⟩ := DataW.trod_int Tryd.underlying2 g1
  obtain ⟨t2, e2, _, w2⟩ := DataW.trod_int Tryd.underlying2 g2
  obtain ⟨s, e3, _, hs⟩ := DataW.trod_string Tryd.underlying9 g3
  simp only [List.cons.injEq, and_true] at e0 e1 e2 e3
  subst e0 e1 e2 e3
  exact ⟨⟨t0, t1, t2, s⟩, rfl, rfl, rfl, rfl, hs⟩

set_option maxRecDepth 100000 in
theorem open_chg {H : Type} {enc : TypeId × Value → H} {W : World} {base bs : Nat} {held : Bool} {v : Value} {d : DataW H} {p : List MemPlace} (hv : Value.okWide Tryd.prog W .any base 35 v)
    (h : DataW.Trod enc Tryd.prog W bs (fun _ => true) held 35 v d p) : ∃ x : Chg, v = chA x ∧ x.b.s.size ≤ maxLen ∧ x.a.s.size ≤ maxLen := by
  obtain ⟨cs, rfl, hsz⟩ := okWide_struct Tryd.underlying35 hv
  have c10 : Tryd.prog.cellsOf 35 = 10 := by kernel_rfl
  rw [c10] at hsz
  obtain ⟨fuel, h2⟩ := h
  obtain ⟨l⟩ := cs
  have hl : l.length = 10 := by simpa using hsz
  obtain ⟨v0, v1, v2, v3, v4, v5, v6, v7, v8, v9, rfl⟩ := ten l hl
  have h2 : DataW.trod enc Tryd.prog W bs (fun _ => true) held fuel 35 [v0, v1, v2, v3, v4, v5, v6, v7, v8, v9] = some (d, p) := h2
  obtain ⟨xs, k, hk, hxy, _, hxl, hf⟩ := DataW.trod_struct Tryd.underlying35 h2
  have hx4 : xs.length = 4 := hxl
  clear hxl
  obtain ⟨y0, y1, y2, y3, rfl⟩ := four xs hx4
  have g0 := hf 0 _ rfl
  have g1 := hf 1 _ rfl
  have g2 := hf 2 _ rfl
  have g3 := hf 3 _ rfl
  have c4 : Tryd.prog.cellsOf 4 = 1 := by kernel_rfl
  have c85 : Tryd.prog.cellsOf 33 = 4 := by kernel_rfl
  simp [c4, c85] at g0 g1 g2 g3
  obtain ⟨t0, e0, _⟩ := DataW.trod_bool Tryd.underlying4 g0
  obtain ⟨q1, a1, a2, a3, a4, a5⟩ := open_row4 g1
  obtain ⟨t2, e2, _⟩ := DataW.trod_bool Tryd.underlying4 g2
  obtain ⟨q3, d1, d2, d3, d4, d5⟩ := open_row4 g3
  simp only [List.cons.injEq, and_true] at e0 e2
  subst e0 e2 a1 a2 a3 a4 d1 d2 d3 d4
  exact ⟨⟨t0, q1, t2, q3⟩, rfl, a5, d5⟩

set_option maxRecDepth 20000 in
set_option maxHeartbeats 4000000 in
theorem lawMayBe_any (a : Option Addr) (n c : Nat) (rs : List Rw) (x : Chg) (w : World) (hE : Errs w) (h : IsRows w a n rs) (hx : x.b.s.size ≤ maxLen ∧ x.a.s.size ≤ maxLen) :
    Calls Tryd.prog 4 #[.slice a n c, chA x] w fun e w' => e = .returned (.bool true) ∧ Below w.heap.size w w' := by
  obtain ⟨hr, hn, hm, hs, _⟩ := h
  obtain ⟨hb, ha⟩ := hx
  obtain ⟨x0, ⟨bt, bk, bv, bs⟩, x5, ⟨at', ak, av, sa⟩⟩ := x
  dsimp only at hb ha
  dsimp only [chA]
  have HR : Hid (∀ W, Below w.heap.size w W → Rs rwE 4 W a rs) := fun W hW => hr.below hW (Nat.le_refl _)
  have HE : Hid (∀ W, Below w.heap.size w W → Errs W) := fun W hW => hE.below hW
  have HN : Hid (rs.length = n) := hn
  have HS : Hid (∀ r ∈ rs, r.s.size ≤ maxLen) := hs
  obtain ⟨q, hq⟩ : ∃ q, q = mbQ rs ⟨x0, ⟨bt, bk, bv, bs⟩, x5, ⟨at', ak, av, sa⟩⟩ := ⟨_, rfl⟩
  have HQ : Hid (mbQ rs ⟨x0, ⟨bt, bk, bv, bs⟩, x5, ⟨at', ak, av, sa⟩⟩ = q) := hq.symm
  clear hq hr hn hs hE
  go_enter Tryd.func4, Tryd.ntmps4
  go_upto_region 2 with (fail)
  generalize hY : World.alloc _ _ = Y
  have H : MbS w w.heap.size ⟨x0, ⟨bt, bk, bv, bs⟩, x5, ⟨at', ak, av, sa⟩⟩ Y := by
    rw [← hY]
    exact ⟨⟨by simp [go_sem], by simp [go_sem], by simp [go_sem], by simp [go_sem], by simp [go_sem], by simp [go_sem], by simp [go_sem], by simp [go_sem], by simp [go_sem], by simp [go_sem]⟩, by go_grown⟩
  clear hY
  go_wp2_with fail
  refine (szRowS_any a rs n c _ 1048576 HN.out hm HS.out (HR.out _ H.g) (by omega) (by omega)).mono ?_
  rintro e w2 ⟨⟨r, rfl, hr1, hl⟩, g2⟩
  have H := H.up g2
  clear g2
  by_cases h0 : r < 0
  · go_wp2_with fail
    go_ret
    exact ⟨rfl, H.g⟩
  have hn : n ≤ 1048576 := (hl (by omega)).1
  have h0 : ¬ (r < 0) := h0
  clear hl
  obtain ⟨z0, z1, z2, z3, z4, z5, z6, z7, z8, z9⟩ := H.c
  dsimp only at z0 z1 z2 z3 z4 z5 z6 z7 z8 z9
  go_wp2_with fail
  refine (szChange_any x0 bt bk bv bs x5 at' ak av sa r _ hb ha (by omega) hr1).mono ?_
  rintro e w3 ⟨⟨r2, rfl, hr2, hl⟩, g3⟩
  have H := H.up g3
  clear g3 z0 z1 z2 z3 z4 z5 z6 z7 z8 z9
  by_cases h2 : r2 < 0
  · go_wp2_with fail
    go_ret
    exact ⟨rfl, H.g⟩
  have h2 : ¬ (r2 < 0) := h2
  clear hl
  go_upto_region 8 with (fail)
  refine wp_region_held_drew (S := MbS w w.heap.size ⟨x0, ⟨bt, bk, bv, bs⟩, x5, ⟨at', ak, av, sa⟩⟩) (by kernel_rfl) H.drew (fun hHeld => ?_)
  generalize w3.drew = D at hHeld ⊢
  clear H
  refine wpAnyH_take (i := 0) (v := ?v1) rfl (by kernel_rfl) (by kernel_rfl) (by kernel_rfl) (fun _ _ _ h => h) (Or.inl ⟨by kernel_rfl, ?h1⟩) hHeld ?_
  case h1 => intro u hSw; clear hSw; go_simp; try with_reducible rfl
  try simp only [List.getElem_toArray]
  try simp only [List.getElem_cons_succ]
  try simp only [List.getElem_cons_zero]
  try simp only [Act.put]
  try simp only [List.setIfInBounds_toArray]
  try simp only [List.set]
  refine wpAnyH_take (i := 2) (v := ?v2) rfl (by kernel_rfl) (by kernel_rfl) (by kernel_rfl) (fun _ _ _ h => h) (Or.inl ⟨by kernel_rfl, ?h2⟩) hHeld ?_
  case h2 => intro u hSw; (obtain ⟨z0, z1, z2, z3, z4, z5, z6, z7, z8, z9⟩ := hSw.c; dsimp only at z0 z1 z2 z3 z4 z5 z6 z7 z8 z9); clear hSw; go_simp; try with_reducible rfl
  try simp only [List.getElem_toArray]
  try simp only [List.getElem_cons_succ]
  try simp only [List.getElem_cons_zero]
  try simp only [Act.put]
  try simp only [List.setIfInBounds_toArray]
  try simp only [List.set]
  refine wpAnyH_ready (rs := [1]) (by kernel_rfl) (by simp) ?_
  refine AllReadyH.cons rfl (fun K hK => ?_) AllReadyH.nil
  go_simp
  go_wp2_with (go_at_call 8; refine (toRowS_any a rs n c _ HN.out hn (HR.out _ hHeld.g)).mono ?_; rintro e D1 ⟨rfl, gb, o1⟩)
  refine hK.out _ _ (hHeld.up gb) (fun hHeld => ?_)
  clear hK K
  clear gb
  obtain ⟨b1, hb1⟩ : ∃ b1, b1 = D.heap.size := ⟨_, rfl⟩
  rw [← hb1] at o1 ⊢
  clear hb1
  try simp only [Act.put]
  try simp only [List.setIfInBounds_toArray]
  try simp only [List.set]
  refine wpAnyH_ready (rs := [3]) (by kernel_rfl) (by simp) ?_
  refine AllReadyH.cons rfl (fun K hK => ?_) AllReadyH.nil
  go_simp
  go_wp2_with (go_at_call 14; refine (toChange_any x0 bt bk bv bs x5 at' ak av sa _).mono ?_; rintro e D2 ⟨rfl, gb⟩)
  refine hK.out _ _ (hHeld.up gb) (fun hHeld => ?_)
  clear hK K
  have o1 := o1.below gb
  clear gb
  try simp only [Act.put]
  try simp only [List.setIfInBounds_toArray]
  try simp only [List.set]
  refine wpAnyH_ready (rs := [4]) (by kernel_rfl) (by simp) ?_
  refine AllReadyH.cons rfl (fun K hK => ?_) AllReadyH.nil
  go_simp
  go_wp2_with (go_at_call 13; refine (specMayBe_any _ rs n n x0 bt bk bv bs x5 at' ak av sa _ HN.out (by omega) HS.out hb ha o1.reads).mono ?_; rintro e D3 ⟨rfl, gb⟩)
  refine hK.out _ _ (hHeld.up gb) (fun hHeld => ?_)
  clear hK K
  clear gb o1
  try simp only [Act.put]
  try simp only [List.setIfInBounds_toArray]
  try simp only [List.set]
  rw [HQ.out]
  refine wpAnyH_take (i := 5) (v := ?v3) rfl (by kernel_rfl) (by kernel_rfl) (by kernel_rfl) (fun _ _ _ h => h) (Or.inl ⟨by kernel_rfl, ?h3⟩) hHeld ?_
  case h3 => intro u hSw; clear hSw; go_simp; try with_reducible rfl
  try simp only [List.getElem_toArray]
  try simp only [List.getElem_cons_succ]
  try simp only [List.getElem_cons_zero]
  try simp only [Act.put]
  try simp only [List.setIfInBounds_toArray]
  try simp only [List.set]
  refine wpAnyH_done (by kernel_rfl) ?_ _
  have H := hHeld
  clear hHeld
  go_wp2_with fail
  refine (toRowS_any a rs n c _ HN.out hn (HR.out _ H.g)).mono ?_
  rintro e w4 ⟨rfl, g4, o4⟩
  have H := H.up g4
  generalize D3.heap.size = b4 at o4 ⊢
  clear g4
  obtain ⟨z0, z1, z2, z3, z4, z5, z6, z7, z8, z9⟩ := H.c
  dsimp only at z0 z1 z2 z3 z4 z5 z6 z7 z8 z9
  go_wp2_with fail
  refine (toChange_any x0 bt bk bv bs x5 at' ak av sa _).mono ?_
  rintro e w5 ⟨rfl, g5⟩
  have H := H.up g5
  have o4 := o4.below g5
  clear g5 z0 z1 z2 z3 z4 z5 z6 z7 z8 z9
  go_wp2_with fail
  refine (implMayBe_any _ rs n n x0 bt bk bv bs x5 at' ak av sa _ HN.out (by omega) HS.out hb ha o4.reads (HE.out _ H.g)).mono ?_
  rintro e w6 ⟨rfl, g6⟩
  rw [HQ.out]
  have H := H.up g6
  have o4 := o4.below g6
  clear g6
  go_wp2_with fail
  refine (toRowS_any a rs n c _ HN.out hn (HR.out _ H.g)).mono ?_
  rintro e w7 ⟨rfl, g7, o7⟩
  have H := H.up g7
  have o4 := o4.below g7
  generalize w6.heap.size = b7 at o7 ⊢
  clear g7
  go_wp2_with fail
  refine (eqRowS_same _ _ rs n n n _ HN.out (by omega) o4.reads o7.reads).mono ?_
  rintro e w8 ⟨rfl, g8⟩
  have H := H.up g8
  clear g8 o4 o7
  go_wp2_with fail
  go_ret
  exact ⟨rfl, H.g⟩

end Go.Proofs.YtmnnkgcknkhgdaaDoor

