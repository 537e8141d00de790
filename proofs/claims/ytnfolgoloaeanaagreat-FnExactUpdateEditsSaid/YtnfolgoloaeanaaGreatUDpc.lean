/-
  The program's dropCell.
-/
import Derived.Test.YtnfolgoloaeanaaGreatUPea
import Derived.Test.YtnfolgoloaeanaaGreatUFnr
import Derived.Test.YtnfolgoloaeanaaGreatUPen
import Derived.Test.YtnfolgoloaeanaaGreatUIpo
import Derived.Test.YtnfolgoloaeanaaGreatUKep
import Derived.Test.YtnfolgoloaeanaaGreatULpu

namespace Go.Proofs.YtnfolgoloaeanaaGreat
open Go.RowKit
set_option linter.unusedVariables false

theorem wrgN_none (zs : List Int) : ∀ k, (∀ s, s < k → wrgS zs s = false) → wrgN zs k = false
  | 0, _ => rfl
  | k + 1, h => by rw [wrgN, wrgN_none zs k (fun s hs => h s (by omega)), h k (by omega)]; rfl
theorem Fine.flt {zs : List Int} (h : Fine zs) : fltOf zs = 0 := by
  have hh : headB zs = false := by
    have h1 := h.few
    have h2 := h.dir
    have h3 := h.low
    simp [headB]
    omega
  unfold fltOf
  rw [if_pos h.pg.len]
  unfold faultP
  rw [hh, wrgN_none zs _ h.ok, h.com, h.ends]
  rfl
/-- An array of 64 bytes is owned. -/
theorem Arr.gb {w : World} {g base : Nat} {zs : List Int} (h : Arr w g zs) (hb : base ≤ g) : Gb base w (.slice (some ⟨g, 0, none⟩) 64 64) zs := by
  have hm : (64 : Nat) ≤ maxLen := by decide
  refine ⟨207, .inr rfl, ?_⟩
  rw [h.len]
  refine ⟨by simp [h.len], .inr ⟨g, 64, _, rfl, hb, h.row, Nat.le_refl _, hm, by rw [pgC_size, h.len], ?_⟩⟩
  simp [pgC, h.len, List.take_of_length_le]
theorem TurnS.cellAt {S : Nat → Prop} {w w' : World} (h : TurnS S w w') {b o : Nat} {v : Value} (hc : w.cell? ⟨b, o, none⟩ = some v) (hn : ¬ S b) : w'.cell? ⟨b, o, none⟩ = some v := h.cell (p := ⟨b, o, none⟩) hc hn

set_option maxRecDepth 20000 in
set_option maxHeartbeats 4000000 in
theorem dropCell_any (n₀ : Nat) (X : World) (ob : Nat) (es : List (Int × List Int)) (cur : List (List Int)) (x1 : Option Addr) (k1 : Nat) (V1 : List Value) (x2 : Option Addr) (k2 : Nat) (V2 : List Value) (pn s : Nat) (old : List Int) (w : World) (hS : HpS n₀ X ob es cur x1 k1 V1 x2 k2 V2 w) (hC : CelIn cur pn s old) (hc12 : cur.length ≤ 12) (hel : es.length ≤ 1000)
    (D : Nat → Prop) (hD1 : ∀ g, blkP (.slice x1 es.length k1) V1 g → D g) (hD2 : ∀ g, blkP (.slice x2 cur.length k2) V2 g → D g) (hD3 : D ob) (hDl : ∀ g, D g → g < w.heap.size) :
    Calls Tryz.prog 71 #[.pointer (some ⟨ob, 0, none⟩), .agg #[.int .i64 pn, .int .i64 s]] w fun e w' => PuPost n₀ X ob (es ++ [((pn : Int), drpP old s)]) (cur.set pn (drpP old s)) x2 k2 D w e w' := by
  have hpl := hC.plt
  have hp := hC.at'
  have hF := hC.ok
  have hh := hC.has
  have hs := hC.small
  obtain ⟨gp, hx2⟩ : ∃ gp, x2 = some ⟨gp, 0, none⟩ := by
    rcases hS.a.p.row.2 with ⟨_, h0⟩ | ⟨gp, cap, cu, e, _⟩
    · omega
    · cases e; exact ⟨gp, rfl⟩
  subst hx2
  obtain ⟨y0, hy0⟩ : ∃ y, V2[pn]? = some y := ⟨_, List.getElem?_eq_getElem (by rw [hS.a.p.len]; omega)⟩
  obtain ⟨ay, cy, hye, hcy, _, _, _⟩ := (hS.a.p.by' pn y0 old hy0 hp).shape
  rw [hF.pg.len] at hye hcy
  subst hye
  have hpi : (pn : Int) < (cur.length : Int) := by omega
  have hsl : (cur.set pn (drpP old s)).length = cur.length := List.length_set
  have hfld : ∀ (g : Nat) (W : World), (Instr.field 146 (.agg #[.int .i64 0, .int .i64 0, .slice (some ⟨g, 0, none⟩) 64 64]) 2).run Tryz.prog W = .ok (.slice (some ⟨g, 0, none⟩) 64 64) W := fun g W => by kernel_rfl
  have hz := isPg_drpP hF.pg s
  have hne := drpP_ne hF hh hs
  go_enter Tryz.func71, Tryz.ntmps71
  go_upto_region 1 with (fail)
  have gY : Below w.heap.size w (w.alloc (.cells #[.int .i64 (pn : Nat), .int .i64 (s : Nat)] 84)).drew := ((Below.refl _ w).alloc (Nat.le_refl _) _).drew
  have b0 : (w.alloc (.cells #[.int .i64 (pn : Nat), .int .i64 (s : Nat)] 84)).drew.cell? ⟨w.heap.size, 0, none⟩ = some (.int .i64 (pn : Nat)) := by simp [go_sem]
  have b1 : (w.alloc (.cells #[.int .i64 (pn : Nat), .int .i64 (s : Nat)] 84)).drew.cell? ⟨w.heap.size, 1, none⟩ = some (.int .i64 (s : Nat)) := by simp [go_sem]
  have hNb : ¬ D w.heap.size := fun h => by have := hDl _ h; omega
  have hSY := hS.below gY
  have hT : TurnS D w (w.alloc (.cells #[.int .i64 (pn : Nat), .int .i64 (s : Nat)] 84)).drew := TurnS.ofBelow gY
  have HL : Hid (∀ g, D g → g < w.heap.size) := hDl
  have HD : Hid ((∀ g, blkP (.slice x1 es.length k1) V1 g → D g) ∧ (∀ g, blkP (.slice (some ⟨gp, 0, none⟩) cur.length k2) V2 g → D g) ∧ D ob) := ⟨hD1, hD2, hD3⟩
  clear hS gY hDl hD1 hD2 hD3
  refine wp_region_held_drew (S := fun V => V.cell? ⟨w.heap.size, 0, none⟩ = some (.int .i64 (pn : Nat)) ∧ V.cell? ⟨w.heap.size, 1, none⟩ = some (.int .i64 (s : Nat)) ∧ V.cell? ⟨ob, 0, none⟩ = some (.slice (some ⟨gp, 0, none⟩) cur.length k2)) (by kernel_rfl) ⟨b0, b1, hSY.o.c0⟩ (fun hHeld => ?_)
  clear b0 b1
  generalize (w.alloc (.cells #[.int .i64 (pn : Nat), .int .i64 (s : Nat)] 84)).drew = V at hSY hHeld hT ⊢
  generalize w.heap.size = bb at hHeld hNb ⊢
  refine tkH (i := 0) (v := ?v1) rfl (Or.inl ⟨by kernel_rfl, ?h1⟩) hHeld ?_
  case h1 => intro u hSw; obtain ⟨r0, r1, r2⟩ := hSw; (try dsimp only at r0 r1 r2); go_simp; try with_reducible rfl
  try simp only [Act.put, tdy]
  refine tkH (i := 1) (v := ?v2) rfl (Or.inl ⟨by kernel_rfl, ?h2⟩) hHeld ?_
  case h2 => intro u hSw; obtain ⟨r0, r1, r2⟩ := hSw; (try dsimp only at r0 r1 r2); go_simp; try with_reducible rfl
  try simp only [Act.put, tdy]
  refine tkH (i := 2) (v := ?v3) rfl (Or.inl ⟨by kernel_rfl, ?h3⟩) hHeld ?_
  case h3 => intro u hSw; obtain ⟨r0, r1, r2⟩ := hSw; (try dsimp only at r0 r1 r2); go_simp; try with_reducible rfl
  try simp only [Act.put, tdy]
  refine tkH (i := 3) (v := ?v4) rfl (Or.inl ⟨by kernel_rfl, ?h4⟩) hHeld ?_
  case h4 => intro u hSw; obtain ⟨r0, r1, r2⟩ := hSw; (try dsimp only at r0 r1 r2); go_simp; try with_reducible rfl
  try simp only [Act.put, tdy]
  refine tkH (i := 4) (v := ?v5) rfl (Or.inl ⟨by kernel_rfl, ?h5⟩) hHeld ?_
  case h5 => intro u hSw; obtain ⟨r0, r1, r2⟩ := hSw; (try dsimp only at r0 r1 r2); go_simp; try with_reducible rfl
  try simp only [Act.put, tdy]
  refine tkH (i := 5) (v := ?v6) rfl (Or.inl ⟨by kernel_rfl, ?h6⟩) hHeld ?_
  case h6 => intro u hSw; obtain ⟨r0, r1, r2⟩ := hSw; (try dsimp only at r0 r1 r2); go_simp; try with_reducible rfl
  try simp only [Act.put, tdy]
  refine tkH (i := 6) (v := ?v7) rfl (Or.inl ⟨by kernel_rfl, ?h7⟩) hHeld ?_
  case h7 => intro u hSw; obtain ⟨r0, r1, r2⟩ := hSw; (try dsimp only at r0 r1 r2); go_simp; try with_reducible rfl
  try simp only [Act.put, tdy]
  refine tkH (i := 7) (v := ?v8) rfl (Or.inl ⟨by kernel_rfl, ?h8⟩) hHeld ?_
  case h8 => intro u hSw; obtain ⟨r0, r1, r2⟩ := hSw; (try dsimp only at r0 r1 r2); go_simp; try with_reducible rfl
  try simp only [Act.put, tdy]
  refine tkH (i := 8) (v := ?v9) rfl (Or.inl ⟨by kernel_rfl, ?h9⟩) hHeld ?_
  case h9 => intro u hSw; obtain ⟨r0, r1, r2⟩ := hSw; (try dsimp only at r0 r1 r2); go_simp; try with_reducible rfl
  try simp only [Act.put, tdy]
  refine tkH (i := 9) (v := ?v10) rfl (Or.inl ⟨by kernel_rfl, ?h10⟩) hHeld ?_
  case h10 => intro u hSw; obtain ⟨r0, r1, r2⟩ := hSw; (try dsimp only at r0 r1 r2); go_simp; try with_reducible rfl
  try simp only [Act.put, tdy]
  refine tkH (i := 11) (v := ?v11) rfl (Or.inl ⟨by kernel_rfl, ?h11⟩) hHeld ?_
  case h11 => intro u hSw; obtain ⟨r0, r1, r2⟩ := hSw; (try dsimp only at r0 r1 r2); go_simp; try with_reducible rfl
  try simp only [Act.put, tdy]
  refine tkH (i := 12) (v := ?v12) rfl (Or.inl ⟨by kernel_rfl, ?h12⟩) hHeld ?_
  case h12 => intro u hSw; obtain ⟨r0, r1, r2⟩ := hSw; (try dsimp only at r0 r1 r2); go_simp; try with_reducible rfl
  try simp only [Act.put, tdy]
  refine wpAnyH_ready (rs := [10]) (by kernel_rfl) (by simp) ?_
  refine AllReadyH.cons rfl (fun K hK => ?_) AllReadyH.nil
  have c8 := hSY.a.p.row.cellAt pn (by omega)
  rw [hy0] at c8
  go_simp
  go_wp2_with fail
  refine hK.out _ _ hHeld (fun hHeld => ?_)
  clear hK K c8
  try simp only [Act.put, tdy]
  refine wpAnyH_ready (rs := [13]) (by kernel_rfl) (by simp) ?_
  refine AllReadyH.cons rfl (fun K hK => ?_) AllReadyH.nil
  have hyb := (hSY.a.p.by' pn _ old hy0 hp).rd
  have hcon := dropSlot_ok ay old cy s V hyb hcy hF.pg.bd hF.flt hh hs
  clear hyb
  go_simp
  go_wp2_with (go_at_call 132; refine hcon.mono ?_; rintro e V6 ⟨g, rfl, g6, hg6, hA6⟩)
  have hgl : ∀ q, (Value.slice (some ⟨g, 0, none⟩) 64 64).ownBlock = some q → V.heap.size ≤ q := fun q e => by simp only [Value.ownBlock, Option.some.injEq] at e; omega
  have hfr : ∀ q, (Value.slice (some ⟨g, 0, none⟩) 64 64).ownBlock = some q → ¬ blkP (.slice x1 es.length k1) V1 q ∧ ¬ blkP (.slice (some ⟨gp, 0, none⟩) cur.length k2) V2 q ∧ q ≠ ob := fun q e => by
    have h1 := hgl q e
    have hol := hSY.o.lt
    exact ⟨fun hh => by have := (hSY.a.e.lt hh).2; omega, fun hh => by have := (hSY.a.p.lt hh).2; omega, fun hh => by omega⟩
  have hu : Gb n₀ V6 (.slice (some ⟨g, 0, none⟩) 64 64) (drpP old s) := hA6.gb (Nat.le_trans hSY.sz hg6)
  have hS6 := hSY.below g6
  have hT6 := hT.trans (TurnS.ofBelow (S := D) g6)
  have hk6 : V6.cell? ⟨bb, 0, none⟩ = some (.int .i64 (pn : Nat)) ∧ V6.cell? ⟨bb, 1, none⟩ = some (.int .i64 (s : Nat)) ∧ V6.cell? ⟨ob, 0, none⟩ = some (.slice (some ⟨gp, 0, none⟩) cur.length k2) := ⟨(g6.cell (p := ⟨bb, 0, none⟩) (World.block_lt_of_cell? V _ hHeld.1)).trans hHeld.1, (g6.cell (p := ⟨bb, 1, none⟩) (World.block_lt_of_cell? V _ hHeld.2.1)).trans hHeld.2.1, hS6.o.c0⟩
  refine hK.out _ _ hk6 (fun hHeld => ?_)
  clear hK K hk6 hSY hT g6 hg6 hA6 hgl hcon
  try simp only [Act.put, tdy]
  refine tkH (i := 14) (v := ?v13) rfl (Or.inl ⟨by kernel_rfl, ?h13⟩) hHeld ?_
  case h13 => intro u hSw; obtain ⟨r0, r1, r2⟩ := hSw; (try dsimp only at r0 r1 r2); go_simp; try with_reducible rfl
  try simp only [Act.put, tdy]
  refine wpAnyH_ready (rs := [15]) (by kernel_rfl) (by simp) ?_
  refine AllReadyH.cons rfl (fun K hK => ?_) AllReadyH.nil
  have hcon := putEdit_old n₀ X ob es cur x1 k1 V1 (some ⟨gp, 0, none⟩) k2 V2 pn (some ⟨g, 0, none⟩) 64 (drpP old s) old V6 hS6 hp hF.pg.bd hz.bd hne hz.len hc12 hel hu hfr D HD.out.1 HD.out.2.1 HD.out.2.2
  clear hS6 hu hfr
  go_simp
  go_wp2_with (go_at_call 86; refine hcon.mono ?_; rintro e V7 ⟨rfl, hR, hT7⟩)
  have hk7 : V7.cell? ⟨bb, 0, none⟩ = some (.int .i64 (pn : Nat)) ∧ V7.cell? ⟨bb, 1, none⟩ = some (.int .i64 (s : Nat)) ∧ V7.cell? ⟨ob, 0, none⟩ = some (.slice (some ⟨gp, 0, none⟩) cur.length k2) := by
    refine ⟨hT7.cellAt hHeld.1 hNb, hT7.cellAt hHeld.2.1 hNb, ?_⟩
    obtain ⟨_, _, _, _, h⟩ := hR
    have := h.o.c0
    rw [hsl] at this
    exact this
  have hT8 := hT6.trans hT7
  have HF : Hid (R4 n₀ X ob (es ++ [((pn : Int), drpP old s)]) (cur.set pn (drpP old s)) (some ⟨gp, 0, none⟩) k2 V7 ∧ TurnS D w V7) := ⟨hR, hT8⟩
  refine hK.out _ _ hk7 (fun hHeld => ?_)
  clear hK K hk7 hR hT6 hT7 hT8 hcon
  try simp only [Act.put, tdy]
  refine wpAnyH_done (by kernel_rfl) ?_ _
  clear hHeld
  go_wp2_with fail
  go_end0
  exact ⟨rfl, HF.out⟩


/-- Edits so far, and pages. -/
abbrev St := List (Int × List Int) × List (List Int)
def tnS (s : St) (p : Nat) (zs : List Int) : St := (tnE s.1 s.2 p zs, wpL s.2 p zs)
def cpL (zs : List Int) : List Int := cpP zs (nb zs 0)
/-- A cell put into page p, which may be compacted for it. -/
def piS (s : St) (p : Nat) (old cs : List Int) : St × Option Nat :=
  if putQ old cs.length = 0 then (tnS s p (putP old cs), some (putS old))
  else if putQ old cs.length = 8 then
    (if putQ (cpL old) cs.length = 0 then (tnS (tnS s p (cpL old)) p (putP (cpL old) cs), some (putS (cpL old))) else (tnS s p (cpL old), none))
  else (s, none)
/-- A new last page with a cell. -/
def nwS (s : St) (cs : List Int) : St × Option (Nat × Nat) := if 12 ≤ s.2.length then (s, none) else (tnS s s.2.length (putP (newBytes 0) cs), some (s.2.length, putS (newBytes 0)))
/-- A cell placed, in one of the k pages from p on, but not in page x, or in a new one. -/
def plS (x : Int) (cs : List Int) : Nat → Nat → St → St × Option (Nat × Nat)
  | 0, _, s => nwS s cs
  | k + 1, p, s => if (p : Int) = x then plS x cs k (p + 1) s else
    match (piS s p (s.2.getD p []) cs).2 with
    | some sl => ((piS s p (s.2.getD p []) cs).1, some (p, sl))
    | none => plS x cs k (p + 1) (piS s p (s.2.getD p []) cs).1

theorem fine_new (f : Int) (h0 : 0 ≤ f) (h1 : f ≤ 255) : Fine (newBytes f) := by
  have e0 : nb (newBytes f) 0 = 0 := rfl
  have e1 : nb (newBytes f) 1 = 64 := rfl
  refine Dirs.fine ⟨⟨by simp [newBytes], fun z hz => ?_⟩, by rw [e0]; omega, by rw [e0, e1]; omega, by rw [e1]; omega, fun j hj => absurd hj (by rw [e0]; omega), fun i k hk hi => absurd hi (by rw [e0]; omega), fun h0 => absurd h0 (by rw [e0]; omega)⟩
  simp only [newBytes, List.mem_cons, List.mem_replicate] at hz
  omega
theorem putQ_new (n : Nat) (h : n ≤ 20) : putQ (newBytes 0) n = 0 := by
  have e0 : nb (newBytes 0) 0 = 0 := rfl
  have e1 : nb (newBytes 0) 1 = 64 := rfl
  have e2 : putS (newBytes 0) = 0 := rfl
  have e3 : freeN (newBytes 0) = 62 := rfl
  have e4 : putMore (newBytes 0) = 2 := rfl
  have e5 : putM (newBytes 0) = 1 := rfl
  unfold putQ
  rw [e0, e1, e2, e3, e4, e5, if_neg (by omega), if_neg (by omega), if_neg (by omega)]
/-- A page that was compacted has its room in one piece. -/
theorem putQ_cp {zs : List Int} (h : Fine zs) (n : Nat) : putQ (cpL zs) n ≠ 8 := by
  have C := (cps_all h (nb zs 0) (Nat.le_refl _)).h0
  have hl := (both_all h (nb zs 0) (Nat.le_refl _)).low
  have hf := free_compact h
  have hs := h.sum
  have hM : 2 * putM (cpL zs) = 2 * nb (cpL zs) 0 + putMore (cpL zs) := by unfold putM putMore; split <;> omega
  unfold cpL at hM ⊢
  unfold putQ
  rw [hf, hl]
  unfold freeN
  rw [C] at hM
  split
  · decide
  · split
    · decide
    · rw [if_neg (by omega)]; decide

/-- Right pages. -/
def okP (cur : List (List Int)) : Prop := ∀ zs ∈ cur, Fine zs
theorem okP.at {cur : List (List Int)} (h : okP cur) {p : Nat} {zs : List Int} (hp : cur[p]? = some zs) : Fine zs := h zs (List.mem_of_getElem? hp)
theorem okP.bd {cur : List (List Int)} (h : okP cur) : ∀ ys ∈ cur, ∀ z ∈ ys, 0 ≤ z ∧ z ≤ 255 := fun ys hy => (h ys hy).pg.bd
theorem okP.turn {cur : List (List Int)} (h : okP cur) (p : Nat) {zs : List Int} (hz : Fine zs) : okP (wpL cur p zs) := by
  intro ys hy
  unfold wpL at hy
  split at hy
  · rcases List.mem_append.1 hy with h1 | h1
    · exact h ys h1
    · rw [List.mem_singleton.1 h1]; exact hz
  · rcases List.mem_or_eq_of_mem_set hy with h1 | h1
    · exact h ys h1
    · rw [h1]; exact hz
theorem wpL_len {cur : List (List Int)} {p : Nat} {zs : List Int} (hp : p < cur.length) : (wpL cur p zs).length = cur.length := by rw [wpL_old zs hp, List.length_set]
theorem wpL_at {cur : List (List Int)} {p : Nat} {zs : List Int} (hp : p < cur.length) : (wpL cur p zs)[p]? = some zs := by rw [wpL_old zs hp, List.getElem?_set_self hp]
/-- What is known of a state. -/
structure OkS (s : St) (m k : Nat) : Prop where
  p : okP s.2
  l : s.2.length = m
  e : s.1.length ≤ k
theorem OkS.mono {s : St} {m k k' : Nat} (h : OkS s m k) (hk : k ≤ k') : OkS s m k' := ⟨h.p, h.l, Nat.le_trans h.e hk⟩
theorem OkS.turn {s : St} {m k : Nat} (h : OkS s m k) {p : Nat} (hp : p < m) {zs : List Int} (hz : Fine zs) : OkS (tnS s p zs) m (k + 1) :=
  ⟨h.p.turn p hz, by show (wpL _ _ _).length = m; rw [wpL_len (by rw [h.l]; exact hp)]; exact h.l, by show (tnE _ _ _ _).length ≤ k + 1; have := tn_len s.1 s.2 p zs; have := h.e; omega⟩
theorem OkS.pi {s : St} {m k : Nat} (h : OkS s m k) {p : Nat} (hp : p < m) {old cs : List Int} (ho : s.2[p]? = some old) (hc : ∀ z ∈ cs, 0 ≤ z ∧ z ≤ 255) (h1 : 1 ≤ cs.length) : OkS (piS s p old cs).1 m (k + 2) := by
  have hf := h.p.at ho
  unfold piS
  split
  · rename_i hq
    exact (h.turn hp (fine_put hf hc h1 hq)).mono (by omega)
  · split
    · split
      · rename_i hq
        exact (h.turn hp (fine_compact hf)).turn hp (fine_put (fine_compact hf) hc h1 hq)
      · exact (h.turn hp (fine_compact hf)).mono (by omega)
    · exact h.mono (by omega)
theorem getD_of {cur : List (List Int)} {p : Nat} {zs : List Int} (h : cur[p]? = some zs) : cur.getD p [] = zs := by simp [List.getD, h]

set_option maxRecDepth 20000

end Go.Proofs.YtnfolgoloaeanaaGreat

