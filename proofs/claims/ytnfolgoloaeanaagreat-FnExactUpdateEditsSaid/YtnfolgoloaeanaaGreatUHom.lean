/-
  The program's homeOf.
-/
import Derived.Test.YtnfolgoloaeanaaGreatUDpc
import Derived.Test.YtnfolgoloaeanaaGreatUMce

namespace Go.Proofs.YtnfolgoloaeanaaGreat
open Go.RowKit
set_option linter.unusedVariables false

/-- Where the cell of a row stands that is found at this place. -/
def homV (c : Cel) (pn sn : Nat) : Value := if c.f = 1 then .agg #[.int .i64 c.p, .int .i64 c.l] else .agg #[.int .i64 pn, .int .i64 sn]
/-- Ten cells of a cell and its place. -/
structure PcA (w : World) (b : Nat) (p s : Int) (c : Cel) : Prop where
  c0 : w.cell? ⟨b, 0, none⟩ = some (.int .i64 p)
  c1 : w.cell? ⟨b, 1, none⟩ = some (.int .i64 s)
  c2 : w.cell? ⟨b, 2, none⟩ = some (.int .i64 c.q)
  c3 : w.cell? ⟨b, 3, none⟩ = some (.int .i64 c.f)
  c4 : w.cell? ⟨b, 4, none⟩ = some (.int .i64 c.p)
  c5 : w.cell? ⟨b, 5, none⟩ = some (.int .i64 c.l)
  c6 : w.cell? ⟨b, 6, none⟩ = some (.int .i64 c.t)
  c7 : w.cell? ⟨b, 7, none⟩ = some (.int .i64 c.k)
  c8 : w.cell? ⟨b, 8, none⟩ = some (.int .i64 c.v)
  c9 : w.cell? ⟨b, 9, none⟩ = some (.string c.s)
/-- Two cells that may be written. -/
structure B2 (w : World) (b : Nat) (x y : Value) : Prop where
  c0 : w.cell? ⟨b, 0, none⟩ = some x
  c1 : w.cell? ⟨b, 1, none⟩ = some y
  f0 : w.frozen? ⟨b, 0, none⟩ = false
  f1 : w.frozen? ⟨b, 1, none⟩ = false
theorem B2.lt {w : World} {b : Nat} {x y : Value} (h : B2 w b x y) : b < w.heap.size := World.block_lt_of_cell? w _ h.c0
theorem B2.below {w w' : World} {b B : Nat} {x y : Value} (h : B2 w b x y) (hb : Below B w w') (hB : b < B) : B2 w' b x y :=
  ⟨(hb.cell (p := ⟨b, 0, none⟩) hB).trans h.c0, (hb.cell (p := ⟨b, 1, none⟩) hB).trans h.c1, (hb.frozen (p := ⟨b, 0, none⟩) hB).trans h.f0, (hb.frozen (p := ⟨b, 1, none⟩) hB).trans h.f1⟩
theorem B2.turnS {w w' : World} {b : Nat} {x y : Value} {S : Nat → Prop} (h : B2 w b x y) (ht : TurnS S w w') (hn : ¬ S b) : B2 w' b x y :=
  ⟨ht.cell (p := ⟨b, 0, none⟩) h.c0 hn, ht.cell (p := ⟨b, 1, none⟩) h.c1 hn, (ht.frozen (p := ⟨b, 0, none⟩) h.c0 hn).trans h.f0, (ht.frozen (p := ⟨b, 1, none⟩) h.c1 hn).trans h.f1⟩
theorem B2.new (w : World) (x y : Value) (t : TypeId) : B2 (w.alloc (.cells #[x, y] t)) w.heap.size x y := ⟨by simp [go_sem], by simp [go_sem], by simp [go_sem], by simp [go_sem]⟩

/-- Ten cells of a new cell and its place, which may be written. -/
structure PcN (w : World) (b : Nat) : Prop where
  c0 : w.cell? ⟨b, 0, none⟩ = some (.int .i64 0)
  c1 : w.cell? ⟨b, 1, none⟩ = some (.int .i64 0)
  c2 : w.cell? ⟨b, 2, none⟩ = some (.int .i64 0)
  c3 : w.cell? ⟨b, 3, none⟩ = some (.int .i64 0)
  c4 : w.cell? ⟨b, 4, none⟩ = some (.int .i64 0)
  c5 : w.cell? ⟨b, 5, none⟩ = some (.int .i64 0)
  c6 : w.cell? ⟨b, 6, none⟩ = some (.int .i64 0)
  c7 : w.cell? ⟨b, 7, none⟩ = some (.int .i64 0)
  c8 : w.cell? ⟨b, 8, none⟩ = some (.int .i64 0)
  c9 : w.cell? ⟨b, 9, none⟩ = some (.string ⟨#[]⟩)
  f0 : w.frozen? ⟨b, 0, none⟩ = false
  f1 : w.frozen? ⟨b, 1, none⟩ = false
  f2 : w.frozen? ⟨b, 2, none⟩ = false
  f3 : w.frozen? ⟨b, 3, none⟩ = false
  f4 : w.frozen? ⟨b, 4, none⟩ = false
  f5 : w.frozen? ⟨b, 5, none⟩ = false
  f6 : w.frozen? ⟨b, 6, none⟩ = false
  f7 : w.frozen? ⟨b, 7, none⟩ = false
  f8 : w.frozen? ⟨b, 8, none⟩ = false
  f9 : w.frozen? ⟨b, 9, none⟩ = false
theorem PcN.lt {w : World} {b : Nat} (h : PcN w b) : b < w.heap.size := World.block_lt_of_cell? w _ h.c0
theorem PcN.new (w : World) : PcN (w.alloc (.cells #[.int .i64 0, .int .i64 0, .int .i64 0, .int .i64 0, .int .i64 0, .int .i64 0, .int .i64 0, .int .i64 0, .int .i64 0, .string ⟨#[]⟩] 186)) w.heap.size := ⟨by simp [go_sem], by simp [go_sem], by simp [go_sem], by simp [go_sem], by simp [go_sem], by simp [go_sem], by simp [go_sem], by simp [go_sem], by simp [go_sem], by simp [go_sem], by simp [go_sem], by simp [go_sem], by simp [go_sem], by simp [go_sem], by simp [go_sem], by simp [go_sem], by simp [go_sem], by simp [go_sem], by simp [go_sem], by simp [go_sem]⟩
theorem PcN.below {w w' : World} {b B : Nat} (h : PcN w b) (hb : Below B w w') (hB : b < B) : PcN w' b := ⟨(hb.cell (p := ⟨b, 0, none⟩) hB).trans h.c0, (hb.cell (p := ⟨b, 1, none⟩) hB).trans h.c1, (hb.cell (p := ⟨b, 2, none⟩) hB).trans h.c2, (hb.cell (p := ⟨b, 3, none⟩) hB).trans h.c3, (hb.cell (p := ⟨b, 4, none⟩) hB).trans h.c4, (hb.cell (p := ⟨b, 5, none⟩) hB).trans h.c5, (hb.cell (p := ⟨b, 6, none⟩) hB).trans h.c6, (hb.cell (p := ⟨b, 7, none⟩) hB).trans h.c7, (hb.cell (p := ⟨b, 8, none⟩) hB).trans h.c8, (hb.cell (p := ⟨b, 9, none⟩) hB).trans h.c9, (hb.frozen (p := ⟨b, 0, none⟩) hB).trans h.f0, (hb.frozen (p := ⟨b, 1, none⟩) hB).trans h.f1, (hb.frozen (p := ⟨b, 2, none⟩) hB).trans h.f2, (hb.frozen (p := ⟨b, 3, none⟩) hB).trans h.f3, (hb.frozen (p := ⟨b, 4, none⟩) hB).trans h.f4, (hb.frozen (p := ⟨b, 5, none⟩) hB).trans h.f5, (hb.frozen (p := ⟨b, 6, none⟩) hB).trans h.f6, (hb.frozen (p := ⟨b, 7, none⟩) hB).trans h.f7, (hb.frozen (p := ⟨b, 8, none⟩) hB).trans h.f8, (hb.frozen (p := ⟨b, 9, none⟩) hB).trans h.f9⟩
theorem B2.turned {w w' : World} {b lo hi : Nat} {x y : Value} (h : B2 w b x y) (ht : Turned lo hi w w') (hn : b < lo ∨ hi ≤ b) : B2 w' b x y :=
  ⟨ht.cell (p := ⟨b, 0, none⟩) h.c0 hn, ht.cell (p := ⟨b, 1, none⟩) h.c1 hn, (ht.frozen (p := ⟨b, 0, none⟩) h.c0 hn).trans h.f0, (ht.frozen (p := ⟨b, 1, none⟩) h.c1 hn).trans h.f1⟩

/-- What homeOf needs of the world along its region: boxes and the way to the page. -/
structure HoW (w : World) (n₀ : Nat) (X : World) (ob : Nat) (es : List (Int × List Int)) (cur : List (List Int)) (x1 : Option Addr) (k1 : Nat) (V1 : List Value) (x2 : Option Addr) (k2 : Nat) (V2 : List Value) (bb rb : Nat) (pn sn : Nat) (V : World) : Prop where
  h : HpS n₀ X ob es cur x1 k1 V1 x2 k2 V2 V
  b : B2 V bb (.int .i64 pn) (.int .i64 sn)
  r : B2 V rb (.int .i64 0) (.int .i64 0)
  g : Below w.heap.size w V
  l : w.heap.size ≤ bb
  m : w.heap.size ≤ rb
theorem HoW.below {w : World} {n₀ : Nat} {X : World} {ob : Nat} {es : List (Int × List Int)} {cur : List (List Int)} {x1 : Option Addr} {k1 : Nat} {V1 : List Value} {x2 : Option Addr} {k2 : Nat} {V2 : List Value} {bb rb pn sn : Nat} {V V' : World} (h : HoW w n₀ X ob es cur x1 k1 V1 x2 k2 V2 bb rb pn sn V) (hb : Below V.heap.size V V') : HoW w n₀ X ob es cur x1 k1 V1 x2 k2 V2 bb rb pn sn V' :=
  ⟨h.h.below hb, h.b.below hb h.b.lt, h.r.below hb h.r.lt, h.g.trans (hb.mono h.g.size), h.l, h.m⟩

set_option maxRecDepth 20000 in
set_option maxHeartbeats 8000000 in
theorem homeOf_any (n₀ : Nat) (X : World) (ob : Nat) (es : List (Int × List Int)) (cur : List (List Int)) (x1 : Option Addr) (k1 : Nat) (V1 : List Value) (x2 : Option Addr) (k2 : Nat) (V2 : List Value) (pn sn : Nat) (zs : List Int) (w : World) (hS : HpS n₀ X ob es cur x1 k1 V1 x2 k2 V2 w) (hC : CelIn cur pn sn zs) :
    Calls Tryz.prog 70 #[.pointer (some ⟨ob, 0, none⟩), .agg #[.int .i64 pn, .int .i64 sn]] w fun e w' => e = .returned (homV (unp (cellOf zs sn)) pn sn) ∧ Below w.heap.size w w' := by
  have hpl := hC.plt
  have hp := hC.at'
  have hF := hC.ok
  have hs := hC.small
  obtain ⟨gp, hx2⟩ : ∃ gp, x2 = some ⟨gp, 0, none⟩ := by
    rcases hS.a.p.row.2 with ⟨_, h0⟩ | ⟨gp, cap, cu, e, _⟩
    · omega
    · cases e; exact ⟨gp, rfl⟩
  subst hx2
  obtain ⟨y0, hy0⟩ : ∃ y, V2[pn]? = some y := ⟨_, List.getElem?_eq_getElem (by rw [hS.a.p.len]; omega)⟩
  obtain ⟨ay, cy, hye, hcy, _, _, _⟩ := (hS.a.p.by' pn y0 zs hy0 hp).shape
  rw [hF.pg.len] at hye hcy
  subst hye
  have hpi : (pn : Int) < (cur.length : Int) := by omega
  have hsb : slotB zs (sn : Int) = cellOf zs sn := by
    unfold slotB
    rw [if_pos hF.flt, if_pos hC.has, Int.toNat_natCast]
  have hcb : ∀ z ∈ cellOf zs sn, 0 ≤ z ∧ z ≤ 255 := fun z hz => hF.pg.bd z (List.mem_of_mem_drop (List.mem_of_mem_take hz))
  have hsw : (Lit.int .i64 (sn : Int)).wf = true := small_wf ⟨by omega, by omega⟩
  obtain ⟨cs, hcs⟩ : ∃ cs, cellOf zs sn = cs := ⟨_, rfl⟩
  have HSl : Hid (∀ V : World, Reads V ay zs → Calls Tryz.prog 130 #[.slice ay 64 cy, .int .i64 (sn : Nat)] V fun e w' => ∃ q a' d, e = .returned (.agg #[.int .i64 q, .slice a' cs.length d]) ∧ Below V.heap.size V w' ∧ Reads w' a' cs ∧ cs.length ≤ d) := fun V hr => by
    have h := implSlotIn_any ay zs 64 cy sn V hF.pg.len (by omega) hcy hr hF.pg.bd hsw
    refine h.mono ?_
    rintro e w' ⟨a', d, he, hb, hy, hd⟩
    rw [hsb, hcs] at he hy hd
    exact ⟨_, a', d, he, hb, hy.reads, hd⟩
  rw [hcs] at hcb ⊢
  obtain ⟨uc, hcu⟩ : ∃ uc, unp cs = uc := ⟨_, rfl⟩
  obtain ⟨q, f, cp, cl, t, k, v, st⟩ := uc
  have HU : Hid (unp cs = ⟨q, f, cp, cl, t, k, v, st⟩) := hcu
  clear hcs hsb hsw hcu
  have hfld : ∀ (q : Int) (a' : Option Addr) (l d : Nat) (W : World), (Instr.field 183 (.agg #[.int .i64 q, .slice a' l d]) 1).run Tryz.prog W = .ok (.slice a' l d) W := fun q a' l d W => by kernel_rfl
  go_enter Tryz.func70, Tryz.ntmps70
  go_upto_region 1 with (fail)
  have g1 : Below w.heap.size w (w.alloc (.cells #[.int .i64 (pn : Nat), .int .i64 (sn : Nat)] 84)) := (Below.refl _ w).alloc (Nat.le_refl _) _
  have hW1 : B2 (w.alloc (.cells #[.int .i64 (pn : Nat), .int .i64 (sn : Nat)] 84)) w.heap.size (.int .i64 (pn : Nat)) (.int .i64 (sn : Nat)) := B2.new _ _ _ _
  have hS1 := hS.below g1
  have hY1 : (w.alloc (.cells #[.int .i64 (pn : Nat), .int .i64 (sn : Nat)] 84)).heap.size = w.heap.size + 1 := by simp [go_sem]
  generalize w.alloc (.cells #[.int .i64 (pn : Nat), .int .i64 (sn : Nat)] 84) = Y1 at g1 hW1 hS1 hY1 ⊢
  have g2 : Below Y1.heap.size Y1 (Y1.alloc (.cells #[.int .i64 0, .int .i64 0] 84)).drew := ((Below.refl _ Y1).alloc (Nat.le_refl _) _).drew
  have r2 : B2 (Y1.alloc (.cells #[.int .i64 0, .int .i64 0] 84)).drew Y1.heap.size (.int .i64 0) (.int .i64 0) := ⟨by simp [go_sem], by simp [go_sem], by simp [go_sem], by simp [go_sem]⟩
  have hW : HoW w n₀ X ob es cur x1 k1 V1 (some ⟨gp, 0, none⟩) k2 V2 w.heap.size Y1.heap.size pn sn (Y1.alloc (.cells #[.int .i64 0, .int .i64 0] 84)).drew := ⟨hS1.below g2, hW1.below g2 hW1.lt, r2, g1.trans (g2.mono g1.size), Nat.le_refl _, g1.size⟩
  have hbr : w.heap.size < Y1.heap.size := hW1.lt
  clear hS hS1 hW1 r2 g1 g2
  rw [hY1] at hW hbr
  clear hY1
  generalize w.heap.size + 1 = rb at hW hbr ⊢
  obtain ⟨bb, hbb⟩ : ∃ bb, w.heap.size = bb := ⟨_, rfl⟩
  have HB : Hid (w.heap.size = bb) := hbb
  have hW : HoW w n₀ X ob es cur x1 k1 V1 (some ⟨gp, 0, none⟩) k2 V2 bb rb pn sn (Y1.alloc (.cells #[.int .i64 0, .int .i64 0] 84)).drew := by rw [← hbb]; exact hW
  simp only [hbb] at hbr ⊢
  clear hbb
  refine wp_region_held_drew (S := (fun V => V.cell? ⟨bb, 0, none⟩ = some (.int .i64 (pn : Nat)) ∧ V.cell? ⟨bb, 1, none⟩ = some (.int .i64 (sn : Nat)) ∧ V.cell? ⟨ob, 0, none⟩ = some (.slice (some ⟨gp, 0, none⟩) cur.length k2) ∧ V.cell? ⟨gp, pn, none⟩ = some (.slice ay 64 cy))) (by kernel_rfl) ⟨hW.b.c0, hW.b.c1, hW.h.o.c0, by have c8 := hW.h.a.p.row.cellAt pn (by omega); rw [hy0] at c8; exact c8⟩ (fun hHeld => ?_)
  generalize (Y1.alloc (.cells #[.int .i64 0, .int .i64 0] 84)).drew = V at hW hHeld ⊢
  refine tkH (i := 0) (v := ?v1) rfl (Or.inl ⟨by kernel_rfl, ?h1⟩) hHeld ?_
  case h1 => intro u hSw; obtain ⟨r0, r1, r2, r3⟩ := hSw; (try dsimp only at r0 r1 r2 r3); go_simp; try with_reducible rfl
  try simp only [Act.put, tdy]
  refine tkH (i := 1) (v := ?v2) rfl (Or.inl ⟨by kernel_rfl, ?h2⟩) hHeld ?_
  case h2 => intro u hSw; obtain ⟨r0, r1, r2, r3⟩ := hSw; (try dsimp only at r0 r1 r2 r3); go_simp; try with_reducible rfl
  try simp only [Act.put, tdy]
  refine tkH (i := 2) (v := ?v3) rfl (Or.inl ⟨by kernel_rfl, ?h3⟩) hHeld ?_
  case h3 => intro u hSw; obtain ⟨r0, r1, r2, r3⟩ := hSw; (try dsimp only at r0 r1 r2 r3); go_simp; try with_reducible rfl
  try simp only [Act.put, tdy]
  refine tkH (i := 3) (v := ?v4) rfl (Or.inl ⟨by kernel_rfl, ?h4⟩) hHeld ?_
  case h4 => intro u hSw; obtain ⟨r0, r1, r2, r3⟩ := hSw; (try dsimp only at r0 r1 r2 r3); go_simp; try with_reducible rfl
  try simp only [Act.put, tdy]
  refine tkH (i := 4) (v := ?v5) rfl (Or.inl ⟨by kernel_rfl, ?h5⟩) hHeld ?_
  case h5 => intro u hSw; obtain ⟨r0, r1, r2, r3⟩ := hSw; (try dsimp only at r0 r1 r2 r3); go_simp; try with_reducible rfl
  try simp only [Act.put, tdy]
  refine tkH (i := 5) (v := ?v6) rfl (Or.inl ⟨by kernel_rfl, ?h6⟩) hHeld ?_
  case h6 => intro u hSw; obtain ⟨r0, r1, r2, r3⟩ := hSw; (try dsimp only at r0 r1 r2 r3); go_simp; try with_reducible rfl
  try simp only [Act.put, tdy]
  refine tkH (i := 6) (v := ?v7) rfl (Or.inl ⟨by kernel_rfl, ?h7⟩) hHeld ?_
  case h7 => intro u hSw; obtain ⟨r0, r1, r2, r3⟩ := hSw; (try dsimp only at r0 r1 r2 r3); go_simp; try with_reducible rfl
  try simp only [Act.put, tdy]
  refine tkH (i := 7) (v := ?v8) rfl (Or.inl ⟨by kernel_rfl, ?h8⟩) hHeld ?_
  case h8 => intro u hSw; obtain ⟨r0, r1, r2, r3⟩ := hSw; (try dsimp only at r0 r1 r2 r3); go_simp; try with_reducible rfl
  try simp only [Act.put, tdy]
  refine tkH (i := 8) (v := ?v9) rfl (Or.inl ⟨by kernel_rfl, ?h9⟩) hHeld ?_
  case h9 => intro u hSw; obtain ⟨r0, r1, r2, r3⟩ := hSw; (try dsimp only at r0 r1 r2 r3); go_simp; try with_reducible rfl
  try simp only [Act.put, tdy]
  refine tkH (i := 9) (v := ?v10) rfl (Or.inl ⟨by kernel_rfl, ?h10⟩) hHeld ?_
  case h10 => intro u hSw; obtain ⟨r0, r1, r2, r3⟩ := hSw; (try dsimp only at r0 r1 r2 r3); go_simp; try with_reducible rfl
  try simp only [Act.put, tdy]
  refine tkH (i := 10) (v := ?v11) rfl (Or.inl ⟨by kernel_rfl, ?h11⟩) hHeld ?_
  case h11 => intro u hSw; obtain ⟨r0, r1, r2, r3⟩ := hSw; (try dsimp only at r0 r1 r2 r3); go_simp; try with_reducible rfl
  try simp only [Act.put, tdy]
  refine wpAnyH_ready (rs := [11, 15]) (by kernel_rfl) (by simp) ?_
  refine AllReadyH.cons rfl (fun K hK => ?_) (AllReadyH.cons rfl (fun K hK => ?_) AllReadyH.nil)
  ·
    have hcon := HSl.out V (hW.h.a.p.by' pn _ zs hy0 hp).rd
    go_simp
    go_wp2_with (go_at_call 130; refine hcon.mono ?_; rintro e V111 ⟨q0, a', d, rfl, gg, hrd, hd⟩)
    have hW := hW.below gg
    refine hK.out _ _ ⟨hW.b.c0, hW.b.c1, hW.h.o.c0, by have c8 := hW.h.a.p.row.cellAt pn (by omega); rw [hy0] at c8; exact c8⟩ (fun hHeld => ?_)
    clear hK K hcon gg
    try simp only [Act.put, tdy]
    refine tkH (i := 12) (v := ?v12) rfl (Or.inl ⟨by kernel_rfl, ?h12⟩) hHeld ?_
    case h12 => intro u hSw; obtain ⟨r0, r1, r2, r3⟩ := hSw; (try dsimp only at r0 r1 r2 r3); go_simp; try with_reducible rfl
    try simp only [Act.put, tdy]
    refine wpAnyH_ready (rs := [13, 15]) (by kernel_rfl) (by simp) ?_
    refine AllReadyH.cons rfl (fun K hK => ?_) (AllReadyH.cons rfl (fun K hK => ?_) AllReadyH.nil)
    ·
      have hcon := implUnpackCell_any a' cs cs.length d V111 rfl hd hrd hcb
      rw [HU.out] at hcon
      go_simp
      go_wp2_with (go_at_call 129; refine hcon.mono ?_; rintro e V213 ⟨rfl, gg⟩; simp only [celV])
      have hW := hW.below gg
      refine hK.out _ _ ⟨hW.b.c0, hW.b.c1, hW.h.o.c0, by have c8 := hW.h.a.p.row.cellAt pn (by omega); rw [hy0] at c8; exact c8⟩ (fun hHeld => ?_)
      clear hK K hcon gg hrd
      try simp only [Act.put, tdy]
      refine tkH (i := 14) (v := ?v13) rfl (Or.inl ⟨by kernel_rfl, ?h13⟩) hHeld ?_
      case h13 => intro u hSw; obtain ⟨r0, r1, r2, r3⟩ := hSw; (try dsimp only at r0 r1 r2 r3); go_simp; try with_reducible rfl
      try simp only [Act.put, tdy]
      refine wpAnyH_ready (rs := [15]) (by kernel_rfl) (by simp) ?_
      refine AllReadyH.cons rfl (fun K hK => ?_) AllReadyH.nil
      have gg : Below V213.heap.size V213 (V213.alloc (.cells #[.int .i64 0, .int .i64 0, .int .i64 0, .int .i64 0, .int .i64 0, .int .i64 0, .int .i64 0, .int .i64 0, .int .i64 0, .string ⟨#[]⟩] 186)) := (Below.refl _ _).alloc (Nat.le_refl _) _
      have hnb : bb < V213.heap.size ∧ rb < V213.heap.size ∧ ob < V213.heap.size ∧ gp < V213.heap.size := ⟨hW.b.lt, hW.r.lt, hW.h.o.lt, (hW.h.a.p.row.lt gp rfl).2⟩
      have hN := PcN.new V213
      have hW := hW.below gg
      go_simp
      go_wp2_with fail
      refine hK.out _ _ ⟨hW.b.c0, hW.b.c1, hW.h.o.c0, by have c8 := hW.h.a.p.row.cellAt pn (by omega); rw [hy0] at c8; exact c8⟩ (fun hHeld => ?_)
      clear hK K gg
      generalize V213.heap.size = nb at hN hnb ⊢
      generalize V213.alloc (.cells #[.int .i64 0, .int .i64 0, .int .i64 0, .int .i64 0, .int .i64 0, .int .i64 0, .int .i64 0, .int .i64 0, .int .i64 0, .string ⟨#[]⟩] 186) = V3a at hN hW hHeld ⊢
      try simp only [Act.put, tdy]
      refine wpAnyH_ready (rs := [16]) (by kernel_rfl) (by simp) ?_
      refine AllReadyH.cons rfl (fun K hK => ?_) AllReadyH.nil
      obtain ⟨n0, n1, n2, n3, n4, n5, n6, n7, n8, n9, m0, m1, m2, m3, m4, m5, m6, m7, m8, m9⟩ := hN
      go_simp
      go_wp2_with fail
      generalize hV9 : World.setCell (World.setCell _ _ _) _ _ = V9
      have hPc : PcA V9 nb (pn : Nat) (sn : Nat) ⟨q, f, cp, cl, t, k, v, st⟩ := by
        rw [← hV9]
        exact ⟨by simp [go_sem, n0], by simp [go_sem, n1], by simp [go_sem, n2], by simp [go_sem, n3], by simp [go_sem, n4], by simp [go_sem, n5], by simp [go_sem, n6], by simp [go_sem, n7], by simp [go_sem, n8], by simp [go_sem, n9]⟩
      have hT9 : Turned nb (nb + 1) V3a V9 := by
        rw [← hV9]
        exact ((((((((((Turned.refl nb (nb + 1) V3a).setCell (by simp) (by simp) _).setCell (by simp) (by simp) _).setCell (by simp) (by simp) _).setCell (by simp) (by simp) _).setCell (by simp) (by simp) _).setCell (by simp) (by simp) _).setCell (by simp) (by simp) _).setCell (by simp) (by simp) _).setCell (by simp) (by simp) _).setCell (by simp) (by simp) _
      have hnw : w.heap.size ≤ nb := by have := hW.m; omega
      have hB9 : B2 V9 bb (.int .i64 (pn : Nat)) (.int .i64 (sn : Nat)) := hW.b.turned hT9 (by omega)
      have hR9 : B2 V9 rb (.int .i64 0) (.int .i64 0) := hW.r.turned hT9 (by omega)
      have g9 : Below w.heap.size w V9 := hW.g.trans (hT9.toBelow hW.g.size hnw)
      have hk9 : V9.cell? ⟨bb, 0, none⟩ = some (.int .i64 (pn : Nat)) ∧ V9.cell? ⟨bb, 1, none⟩ = some (.int .i64 (sn : Nat)) ∧ V9.cell? ⟨ob, 0, none⟩ = some (.slice (some ⟨gp, 0, none⟩) cur.length k2) ∧ V9.cell? ⟨gp, pn, none⟩ = some (.slice ay 64 cy) := ⟨hB9.c0, hB9.c1, hT9.cell (p := ⟨ob, 0, none⟩) hHeld.2.2.1 (.inl (by simp; omega)), hT9.cell (p := ⟨gp, pn, none⟩) hHeld.2.2.2 (.inl (by simp; omega))⟩
      have hlow : w.heap.size ≤ rb := hW.m
      refine hK.out _ _ hk9 (fun hHeld => ?_)
      clear hK K hk9 hT9 hV9 hHeld hW n0 n1 n2 n3 n4 n5 n6 n7 n8 n9 m0 m1 m2 m3 m4 m5 m6 m7 m8 m9
      try simp only [Act.put, tdy]
      refine wpAnyH_done (by kernel_rfl) ?_ _
      obtain ⟨n0, n1, n2, n3, n4, n5, n6, n7, n8, n9⟩ := hPc
      have hRl := hR9.lt
      by_cases hf1 : f = 1
      · have HV : Hid (homV ⟨q, f, cp, cl, t, k, v, st⟩ pn sn = .agg #[.int .i64 cp, .int .i64 cl]) := if_pos hf1
        have df : (f == 1) = true := by simpa using hf1
        have htl := told_any (pn : Nat) (sn : Nat) q f cp cl t k v st V9
        clear hf1
        go_wp2_with (go_at_call 131; refine htl.mono ?_; rintro e V10 ⟨rfl, g10⟩; obtain ⟨d0, d1, h0, h1⟩ := hR9.below g10 hRl; clear htl)
        refine bodyPost_ret (v := .agg #[.int .i64 cp, .int .i64 cl]) (by simp [results, Tryz.results70, go_sem, d0, d1]) rfl ?_
        exact ⟨by rw [HU.out, HV.out], ((g9.trans (g10.mono g9.size)).setCell (by simp; omega) _).setCell (by simp; omega) _⟩
      · have HV : Hid (homV ⟨q, f, cp, cl, t, k, v, st⟩ pn sn = .agg #[.int .i64 (pn : Nat), .int .i64 (sn : Nat)]) := if_neg hf1
        have df : (f == 1) = false := by simpa using hf1
        obtain ⟨e0, e1, _, _⟩ := hB9
        obtain ⟨d0, d1, h0, h1⟩ := hR9
        clear hf1
        go_wp2_with fail
        refine bodyPost_ret (v := .agg #[.int .i64 (pn : Nat), .int .i64 (sn : Nat)]) (by simp [results, Tryz.results70, go_sem, d0, d1]) rfl ?_
        exact ⟨by rw [HU.out, HV.out], (g9.setCell (by simp; omega) _).setCell (by simp; omega) _⟩
    ·
      have gg : Below V111.heap.size V111 (V111.alloc (.cells #[.int .i64 0, .int .i64 0, .int .i64 0, .int .i64 0, .int .i64 0, .int .i64 0, .int .i64 0, .int .i64 0, .int .i64 0, .string ⟨#[]⟩] 186)) := (Below.refl _ _).alloc (Nat.le_refl _) _
      have hnb : bb < V111.heap.size ∧ rb < V111.heap.size ∧ ob < V111.heap.size ∧ gp < V111.heap.size := ⟨hW.b.lt, hW.r.lt, hW.h.o.lt, (hW.h.a.p.row.lt gp rfl).2⟩
      have hN := PcN.new V111
      have hW := hW.below gg
      have hrd := hrd.below gg (Nat.le_refl _)
      go_simp
      go_wp2_with fail
      refine hK.out _ _ ⟨hW.b.c0, hW.b.c1, hW.h.o.c0, by have c8 := hW.h.a.p.row.cellAt pn (by omega); rw [hy0] at c8; exact c8⟩ (fun hHeld => ?_)
      clear hK K gg
      generalize V111.heap.size = nb at hN hnb ⊢
      generalize V111.alloc (.cells #[.int .i64 0, .int .i64 0, .int .i64 0, .int .i64 0, .int .i64 0, .int .i64 0, .int .i64 0, .int .i64 0, .int .i64 0, .string ⟨#[]⟩] 186) = V2a at hN hW hHeld hrd ⊢
      try simp only [Act.put, tdy]
      refine wpAnyH_ready (rs := [13]) (by kernel_rfl) (by simp) ?_
      refine AllReadyH.cons rfl (fun K hK => ?_) AllReadyH.nil
      have hcon := implUnpackCell_any a' cs cs.length d V2a rfl hd hrd hcb
      rw [HU.out] at hcon
      go_simp
      go_wp2_with (go_at_call 129; refine hcon.mono ?_; rintro e V313 ⟨rfl, gg⟩; simp only [celV])
      have hW := hW.below gg
      have hN := hN.below gg hN.lt
      refine hK.out _ _ ⟨hW.b.c0, hW.b.c1, hW.h.o.c0, by have c8 := hW.h.a.p.row.cellAt pn (by omega); rw [hy0] at c8; exact c8⟩ (fun hHeld => ?_)
      clear hK K hcon gg hrd
      try simp only [Act.put, tdy]
      refine tkH (i := 14) (v := ?v14) rfl (Or.inl ⟨by kernel_rfl, ?h14⟩) hHeld ?_
      case h14 => intro u hSw; obtain ⟨r0, r1, r2, r3⟩ := hSw; (try dsimp only at r0 r1 r2 r3); go_simp; try with_reducible rfl
      try simp only [Act.put, tdy]
      refine wpAnyH_ready (rs := [16]) (by kernel_rfl) (by simp) ?_
      refine AllReadyH.cons rfl (fun K hK => ?_) AllReadyH.nil
      obtain ⟨n0, n1, n2, n3, n4, n5, n6, n7, n8, n9, m0, m1, m2, m3, m4, m5, m6, m7, m8, m9⟩ := hN
      go_simp
      go_wp2_with fail
      generalize hV9 : World.setCell (World.setCell _ _ _) _ _ = V9
      have hPc : PcA V9 nb (pn : Nat) (sn : Nat) ⟨q, f, cp, cl, t, k, v, st⟩ := by
        rw [← hV9]
        exact ⟨by simp [go_sem, n0], by simp [go_sem, n1], by simp [go_sem, n2], by simp [go_sem, n3], by simp [go_sem, n4], by simp [go_sem, n5], by simp [go_sem, n6], by simp [go_sem, n7], by simp [go_sem, n8], by simp [go_sem, n9]⟩
      have hT9 : Turned nb (nb + 1) V313 V9 := by
        rw [← hV9]
        exact ((((((((((Turned.refl nb (nb + 1) V313).setCell (by simp) (by simp) _).setCell (by simp) (by simp) _).setCell (by simp) (by simp) _).setCell (by simp) (by simp) _).setCell (by simp) (by simp) _).setCell (by simp) (by simp) _).setCell (by simp) (by simp) _).setCell (by simp) (by simp) _).setCell (by simp) (by simp) _).setCell (by simp) (by simp) _
      have hnw : w.heap.size ≤ nb := by have := hW.m; omega
      have hB9 : B2 V9 bb (.int .i64 (pn : Nat)) (.int .i64 (sn : Nat)) := hW.b.turned hT9 (by omega)
      have hR9 : B2 V9 rb (.int .i64 0) (.int .i64 0) := hW.r.turned hT9 (by omega)
      have g9 : Below w.heap.size w V9 := hW.g.trans (hT9.toBelow hW.g.size hnw)
      have hk9 : V9.cell? ⟨bb, 0, none⟩ = some (.int .i64 (pn : Nat)) ∧ V9.cell? ⟨bb, 1, none⟩ = some (.int .i64 (sn : Nat)) ∧ V9.cell? ⟨ob, 0, none⟩ = some (.slice (some ⟨gp, 0, none⟩) cur.length k2) ∧ V9.cell? ⟨gp, pn, none⟩ = some (.slice ay 64 cy) := ⟨hB9.c0, hB9.c1, hT9.cell (p := ⟨ob, 0, none⟩) hHeld.2.2.1 (.inl (by simp; omega)), hT9.cell (p := ⟨gp, pn, none⟩) hHeld.2.2.2 (.inl (by simp; omega))⟩
      have hlow : w.heap.size ≤ rb := hW.m
      refine hK.out _ _ hk9 (fun hHeld => ?_)
      clear hK K hk9 hT9 hV9 hHeld hW n0 n1 n2 n3 n4 n5 n6 n7 n8 n9 m0 m1 m2 m3 m4 m5 m6 m7 m8 m9
      try simp only [Act.put, tdy]
      refine wpAnyH_done (by kernel_rfl) ?_ _
      obtain ⟨n0, n1, n2, n3, n4, n5, n6, n7, n8, n9⟩ := hPc
      have hRl := hR9.lt
      by_cases hf1 : f = 1
      · have HV : Hid (homV ⟨q, f, cp, cl, t, k, v, st⟩ pn sn = .agg #[.int .i64 cp, .int .i64 cl]) := if_pos hf1
        have df : (f == 1) = true := by simpa using hf1
        have htl := told_any (pn : Nat) (sn : Nat) q f cp cl t k v st V9
        clear hf1
        go_wp2_with (go_at_call 131; refine htl.mono ?_; rintro e V10 ⟨rfl, g10⟩; obtain ⟨d0, d1, h0, h1⟩ := hR9.below g10 hRl; clear htl)
        refine bodyPost_ret (v := .agg #[.int .i64 cp, .int .i64 cl]) (by simp [results, Tryz.results70, go_sem, d0, d1]) rfl ?_
        exact ⟨by rw [HU.out, HV.out], ((g9.trans (g10.mono g9.size)).setCell (by simp; omega) _).setCell (by simp; omega) _⟩
      · have HV : Hid (homV ⟨q, f, cp, cl, t, k, v, st⟩ pn sn = .agg #[.int .i64 (pn : Nat), .int .i64 (sn : Nat)]) := if_neg hf1
        have df : (f == 1) = false := by simpa using hf1
        obtain ⟨e0, e1, _, _⟩ := hB9
        obtain ⟨d0, d1, h0, h1⟩ := hR9
        clear hf1
        go_wp2_with fail
        refine bodyPost_ret (v := .agg #[.int .i64 (pn : Nat), .int .i64 (sn : Nat)]) (by simp [results, Tryz.results70, go_sem, d0, d1]) rfl ?_
        exact ⟨by rw [HU.out, HV.out], (g9.setCell (by simp; omega) _).setCell (by simp; omega) _⟩
  ·
    have gg : Below V.heap.size V (V.alloc (.cells #[.int .i64 0, .int .i64 0, .int .i64 0, .int .i64 0, .int .i64 0, .int .i64 0, .int .i64 0, .int .i64 0, .int .i64 0, .string ⟨#[]⟩] 186)) := (Below.refl _ _).alloc (Nat.le_refl _) _
    have hnb : bb < V.heap.size ∧ rb < V.heap.size ∧ ob < V.heap.size ∧ gp < V.heap.size := ⟨hW.b.lt, hW.r.lt, hW.h.o.lt, (hW.h.a.p.row.lt gp rfl).2⟩
    have hN := PcN.new V
    have hW := hW.below gg
    go_simp
    go_wp2_with fail
    refine hK.out _ _ ⟨hW.b.c0, hW.b.c1, hW.h.o.c0, by have c8 := hW.h.a.p.row.cellAt pn (by omega); rw [hy0] at c8; exact c8⟩ (fun hHeld => ?_)
    clear hK K gg
    generalize V.heap.size = nb at hN hnb ⊢
    generalize V.alloc (.cells #[.int .i64 0, .int .i64 0, .int .i64 0, .int .i64 0, .int .i64 0, .int .i64 0, .int .i64 0, .int .i64 0, .int .i64 0, .string ⟨#[]⟩] 186) = V1a at hN hW hHeld ⊢
    try simp only [Act.put, tdy]
    refine wpAnyH_ready (rs := [11]) (by kernel_rfl) (by simp) ?_
    refine AllReadyH.cons rfl (fun K hK => ?_) AllReadyH.nil
    have hcon := HSl.out V1a (hW.h.a.p.by' pn _ zs hy0 hp).rd
    go_simp
    go_wp2_with (go_at_call 130; refine hcon.mono ?_; rintro e V211 ⟨q0, a', d, rfl, gg, hrd, hd⟩)
    have hW := hW.below gg
    have hN := hN.below gg hN.lt
    refine hK.out _ _ ⟨hW.b.c0, hW.b.c1, hW.h.o.c0, by have c8 := hW.h.a.p.row.cellAt pn (by omega); rw [hy0] at c8; exact c8⟩ (fun hHeld => ?_)
    clear hK K hcon gg
    try simp only [Act.put, tdy]
    refine tkH (i := 12) (v := ?v15) rfl (Or.inl ⟨by kernel_rfl, ?h15⟩) hHeld ?_
    case h15 => intro u hSw; obtain ⟨r0, r1, r2, r3⟩ := hSw; (try dsimp only at r0 r1 r2 r3); go_simp; try with_reducible rfl
    try simp only [Act.put, tdy]
    refine wpAnyH_ready (rs := [13]) (by kernel_rfl) (by simp) ?_
    refine AllReadyH.cons rfl (fun K hK => ?_) AllReadyH.nil
    have hcon := implUnpackCell_any a' cs cs.length d V211 rfl hd hrd hcb
    rw [HU.out] at hcon
    go_simp
    go_wp2_with (go_at_call 129; refine hcon.mono ?_; rintro e V313 ⟨rfl, gg⟩; simp only [celV])
    have hW := hW.below gg
    have hN := hN.below gg hN.lt
    refine hK.out _ _ ⟨hW.b.c0, hW.b.c1, hW.h.o.c0, by have c8 := hW.h.a.p.row.cellAt pn (by omega); rw [hy0] at c8; exact c8⟩ (fun hHeld => ?_)
    clear hK K hcon gg hrd
    try simp only [Act.put, tdy]
    refine tkH (i := 14) (v := ?v16) rfl (Or.inl ⟨by kernel_rfl, ?h16⟩) hHeld ?_
    case h16 => intro u hSw; obtain ⟨r0, r1, r2, r3⟩ := hSw; (try dsimp only at r0 r1 r2 r3); go_simp; try with_reducible rfl
    try simp only [Act.put, tdy]
    refine wpAnyH_ready (rs := [16]) (by kernel_rfl) (by simp) ?_
    refine AllReadyH.cons rfl (fun K hK => ?_) AllReadyH.nil
    obtain ⟨n0, n1, n2, n3, n4, n5, n6, n7, n8, n9, m0, m1, m2, m3, m4, m5, m6, m7, m8, m9⟩ := hN
    go_simp
    go_wp2_with fail
    generalize hV9 : World.setCell (World.setCell _ _ _) _ _ = V9
    have hPc : PcA V9 nb (pn : Nat) (sn : Nat) ⟨q, f, cp, cl, t, k, v, st⟩ := by
      rw [← hV9]
      exact ⟨by simp [go_sem, n0], by simp [go_sem, n1], by simp [go_sem, n2], by simp [go_sem, n3], by simp [go_sem, n4], by simp [go_sem, n5], by simp [go_sem, n6], by simp [go_sem, n7], by simp [go_sem, n8], by simp [go_sem, n9]⟩
    have hT9 : Turned nb (nb + 1) V313 V9 := by
      rw [← hV9]
      exact ((((((((((Turned.refl nb (nb + 1) V313).setCell (by simp) (by simp) _).setCell (by simp) (by simp) _).setCell (by simp) (by simp) _).setCell (by simp) (by simp) _).setCell (by simp) (by simp) _).setCell (by simp) (by simp) _).setCell (by simp) (by simp) _).setCell (by simp) (by simp) _).setCell (by simp) (by simp) _).setCell (by simp) (by simp) _
    have hnw : w.heap.size ≤ nb := by have := hW.m; omega
    have hB9 : B2 V9 bb (.int .i64 (pn : Nat)) (.int .i64 (sn : Nat)) := hW.b.turned hT9 (by omega)
    have hR9 : B2 V9 rb (.int .i64 0) (.int .i64 0) := hW.r.turned hT9 (by omega)
    have g9 : Below w.heap.size w V9 := hW.g.trans (hT9.toBelow hW.g.size hnw)
    have hk9 : V9.cell? ⟨bb, 0, none⟩ = some (.int .i64 (pn : Nat)) ∧ V9.cell? ⟨bb, 1, none⟩ = some (.int .i64 (sn : Nat)) ∧ V9.cell? ⟨ob, 0, none⟩ = some (.slice (some ⟨gp, 0, none⟩) cur.length k2) ∧ V9.cell? ⟨gp, pn, none⟩ = some (.slice ay 64 cy) := ⟨hB9.c0, hB9.c1, hT9.cell (p := ⟨ob, 0, none⟩) hHeld.2.2.1 (.inl (by simp; omega)), hT9.cell (p := ⟨gp, pn, none⟩) hHeld.2.2.2 (.inl (by simp; omega))⟩
    have hlow : w.heap.size ≤ rb := hW.m
    refine hK.out _ _ hk9 (fun hHeld => ?_)
    clear hK K hk9 hT9 hV9 hHeld hW n0 n1 n2 n3 n4 n5 n6 n7 n8 n9 m0 m1 m2 m3 m4 m5 m6 m7 m8 m9
    try simp only [Act.put, tdy]
    refine wpAnyH_done (by kernel_rfl) ?_ _
    obtain ⟨n0, n1, n2, n3, n4, n5, n6, n7, n8, n9⟩ := hPc
    have hRl := hR9.lt
    by_cases hf1 : f = 1
    · have HV : Hid (homV ⟨q, f, cp, cl, t, k, v, st⟩ pn sn = .agg #[.int .i64 cp, .int .i64 cl]) := if_pos hf1
      have df : (f == 1) = true := by simpa using hf1
      have htl := told_any (pn : Nat) (sn : Nat) q f cp cl t k v st V9
      clear hf1
      go_wp2_with (go_at_call 131; refine htl.mono ?_; rintro e V10 ⟨rfl, g10⟩; obtain ⟨d0, d1, h0, h1⟩ := hR9.below g10 hRl; clear htl)
      refine bodyPost_ret (v := .agg #[.int .i64 cp, .int .i64 cl]) (by simp [results, Tryz.results70, go_sem, d0, d1]) rfl ?_
      exact ⟨by rw [HU.out, HV.out], ((g9.trans (g10.mono g9.size)).setCell (by simp; omega) _).setCell (by simp; omega) _⟩
    · have HV : Hid (homV ⟨q, f, cp, cl, t, k, v, st⟩ pn sn = .agg #[.int .i64 (pn : Nat), .int .i64 (sn : Nat)]) := if_neg hf1
      have df : (f == 1) = false := by simpa using hf1
      obtain ⟨e0, e1, _, _⟩ := hB9
      obtain ⟨d0, d1, h0, h1⟩ := hR9
      clear hf1
      go_wp2_with fail
      refine bodyPost_ret (v := .agg #[.int .i64 (pn : Nat), .int .i64 (sn : Nat)]) (by simp [results, Tryz.results70, go_sem, d0, d1]) rfl ?_
      exact ⟨by rw [HU.out, HV.out], (g9.setCell (by simp; omega) _).setCell (by simp; omega) _⟩

end Go.Proofs.YtnfolgoloaeanaaGreat

