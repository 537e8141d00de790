/-
  The model's ApplyEdits.
-/
import Derived.Test.YteebbaleejbodaaAREres
import Derived.Test.YteebbaleejbodaaARUnpS

namespace Go.Proofs.Yteebbaleejbodaa
open Go.RowKit
set_option linter.unusedVariables false

/-- Edits applied one behind the other. -/
def aeR : List (List Int) → List (Int × List Int) → Int × List (List Int)
  | ps, [] => (0, ps)
  | ps, e :: l => if e.2.length = 64 ∧ 0 ≤ e.1 ∧ e.1 ≤ ps.length then (if e.1 = 12 then (2, []) else aeR (wpL ps e.1.toNat e.2) l) else (1, [])
theorem aeR_cons (ps : List (List Int)) (e : Int × List Int) (l : List (Int × List Int)) : aeR ps (e :: l) = if e.2.length = 64 ∧ 0 ≤ e.1 ∧ e.1 ≤ ps.length then (if e.1 = 12 then (2, []) else aeR (wpL ps e.1.toNat e.2) l) else (1, []) := rfl
def aeQ (ps : List (List Int)) (es : List (Int × List Int)) : Int := if 12 < ps.length then 2 else (aeR ps es).1
def aeP (ps : List (List Int)) (es : List (Int × List Int)) : List (List Int) := if aeQ ps es = 0 then (aeR ps es).2 else []
def aeE (ps : List (List Int)) (es : List (Int × List Int)) : List (Int × List Int) := if aeQ ps es = 0 then es else []
/-- What ApplyEdits hands back, its edits told. -/
def AePost (q : Int) (es : List (Int × List Int)) (ps : List (List Int)) (w : World) (e : Ending) (w' : World) : Prop := ∃ v1 V1 v2 V2, e = .returned (.agg #[.int .i64 q, v1, v2]) ∧ Below w.heap.size w w' ∧ Ans w.heap.size w' v1 es V1 v2 ps V2
theorem ans_nil (n₀ : Nat) (W : World) : Ans n₀ W (.slice none 0 0) [] [] (.slice none 0 0) [] [] := ⟨EdB.nil _ _, PgB.nil _ _, fun i j u u' g _ h => by simp at h, fun i j u u' g _ h => by simp at h, fun g h => by rcases h with h | ⟨u, hu, _⟩; cases h; simp at hu⟩
theorem AePost.code {ps : List (List Int)} {es : List (Int × List Int)} {w w' : World} {q : Int} (hq : aeQ ps es = q) (h0 : q ≠ 0) (g : Below w.heap.size w w') : AePost (aeQ ps es) (aeE ps es) (aeP ps es) w (.returned (.agg #[.int .i64 q, .slice none 0 0, .slice none 0 0])) w' := by
  refine ⟨_, [], _, [], by rw [hq], g, ?_⟩
  unfold aeE aeP
  rw [if_neg (by rw [hq]; exact h0), if_neg (by rw [hq]; exact h0)]
  exact ans_nil _ _
/-- Two cells of an edit. -/
def EdS (b o : Nat) (p : Int) (x : Option Addr) (n c : Nat) (V : World) : Prop := V.cell? ⟨b, o, none⟩ = some (.int .i64 p) ∧ V.cell? ⟨b, o + 1, none⟩ = some (.slice x n c)
theorem EdS.keep {b o : Nat} {p : Int} {x : Option Addr} {n c B : Nat} {V V' : World} (h : EdS b o p x n c V) (hb : Below B V V') (hl : b < B) : EdS b o p x n c V' := ⟨(hb.cell (p := ⟨b, _, none⟩) hl).trans h.1, (hb.cell (p := ⟨b, _, none⟩) hl).trans h.2⟩
/-- Three cells of an answer that is made. -/
structure OutC (V : World) (b : Nat) (v1 v2 : Value) : Prop where
  c0 : V.cell? ⟨b, 0, none⟩ = some (.int .i64 0)
  c1 : V.cell? ⟨b, 1, none⟩ = some v1
  c2 : V.cell? ⟨b, 2, none⟩ = some v2
  f1 : V.frozen? ⟨b, 1, none⟩ = false
  f2 : V.frozen? ⟨b, 2, none⟩ = false
theorem OutC.lt {V : World} {b : Nat} {v1 v2 : Value} (h : OutC V b v1 v2) : b < V.heap.size := World.block_lt_of_cell? V _ h.c0
theorem OutC.grown {V V' : World} {b : Nat} {v1 v2 : Value} (h : OutC V b v1 v2) {row : Option Nat} (hg : V.grownBy V' row) (hn : row ≠ some b) : OutC V' b v1 v2 :=
  ⟨hg.cell h.c0 (fun e => hn e.symm), hg.cell h.c1 (fun e => hn e.symm), hg.cell h.c2 (fun e => hn e.symm), (World.frozen?_of_block (hg.block b h.lt (fun e => hn e.symm))).trans h.f1, (World.frozen?_of_block (hg.block b h.lt (fun e => hn e.symm))).trans h.f2⟩
theorem OutC.below {V V' : World} {b : Nat} {v1 v2 : Value} (h : OutC V b v1 v2) (hb : Below V.heap.size V V') : OutC V' b v1 v2 := h.grown (row := none) ⟨hb.os, hb.tape, hb.output, hb.size, fun k hk _ => hb.block k hk⟩ (by simp)
theorem OutC.set1 {V : World} {b : Nat} {v1 v2 : Value} (h : OutC V b v1 v2) (u : Value) : OutC (V.setCell ⟨b, 1, none⟩ u) b u v2 :=
  ⟨(cell_off (by omega)).trans h.c0, World.cell?_setCell_same _ _ _ h.c1, (cell_off (by omega)).trans h.c2, by rw [World.frozen?_setCell]; exact h.f1, by rw [World.frozen?_setCell]; exact h.f2⟩
theorem OutC.set2 {V : World} {b : Nat} {v1 v2 : Value} (h : OutC V b v1 v2) (u : Value) : OutC (V.setCell ⟨b, 2, none⟩ u) b v1 u :=
  ⟨(cell_off (by omega)).trans h.c0, (cell_off (by omega)).trans h.c1, World.cell?_setCell_same _ _ _ h.c2, by rw [World.frozen?_setCell]; exact h.f1, by rw [World.frozen?_setCell]; exact h.f2⟩
/-- All that a round keeps. -/
structure AeS (n₀ : Nat) (X : World) (ob : Nat) (es : List (Int × List Int)) (ps : List (List Int)) (x1 : Option Addr) (k1 : Nat) (V1 : List Value) (x2 : Option Addr) (k2 : Nat) (V2 : List Value) (V : World) : Prop where
  a : Ans n₀ V (.slice x1 es.length k1) es V1 (.slice x2 ps.length k2) ps V2
  o : OutC V ob (.slice x1 es.length k1) (.slice x2 ps.length k2)
  n1 : ¬ blkP (.slice x1 es.length k1) V1 ob
  n2 : ¬ blkP (.slice x2 ps.length k2) V2 ob
  g : Below n₀ X V
  l : n₀ ≤ ob
section
variable {n₀ : Nat} {X : World} {ob : Nat} {es : List (Int × List Int)} {ps : List (List Int)} {x1 : Option Addr} {k1 : Nat} {V1 : List Value} {x2 : Option Addr} {k2 : Nat} {V2 : List Value} {V V' : World}
theorem AeS.sz (h : AeS n₀ X ob es ps x1 k1 V1 x2 k2 V2 V) : n₀ ≤ V.heap.size := Nat.le_trans h.l (Nat.le_of_lt h.o.lt)
theorem AeS.below (h : AeS n₀ X ob es ps x1 k1 V1 x2 k2 V2 V) (hb : Below V.heap.size V V') : AeS n₀ X ob es ps x1 k1 V1 x2 k2 V2 V' := ⟨h.a.below hb, h.o.below hb, h.n1, h.n2, h.g.trans (hb.mono h.sz), h.l⟩
theorem grownOut (V : World) (ob i : Nat) (u : Value) : V.grownBy (V.setCell ⟨ob, i, none⟩ u) (some ob) := by
  have t := (Turned.refl ob (ob + 1) V).setCell (p := ⟨ob, i, none⟩) (Nat.le_refl _) (Nat.lt_succ_self _) u
  exact ⟨t.os, t.tape, t.output, t.size, fun k hk hn => t.block k hk (fun e => hn (by rw [show k = ob by omega]))⟩
/-- Other pages, laid into the answer. -/
theorem AeS.pages (h : AeS n₀ X ob es ps x1 k1 V1 x2 k2 V2 V) {qs : List (List Int)} {x3 : Option Addr} {k3 : Nat} {V3 : List Value} {row : Option Nat} (hg : V.grownBy V' row) (hr : ∀ g, row = some g → blkP (.slice x2 ps.length k2) V2 g) (hp : PgB n₀ V' (.slice x3 qs.length k3) qs V3) (hs : SepV V3) (hb : ∀ g, blkP (.slice x3 qs.length k3) V3 g → blkP (.slice x2 ps.length k2) V2 g ∨ (¬ blkP (.slice x1 es.length k1) V1 g ∧ g ≠ ob)) : AeS n₀ X ob es qs x1 k1 V1 x3 k3 V3 (V'.setCell ⟨ob, 2, none⟩ (.slice x3 qs.length k3)) := by
  have hne : row ≠ some ob := fun e => h.n2 (hr ob e)
  have n3 : ¬ blkP (.slice x3 qs.length k3) V3 ob := fun hh => by
    rcases hb ob hh with h1 | h1
    · exact h.n2 h1
    · exact h1.2 rfl
  have hlow : ∀ g, row = some g → n₀ ≤ g := fun g e => (h.a.p.lt (hr g e)).1
  have he : EdB n₀ V' (.slice x1 es.length k1) es V1 := h.a.e.kept hg (fun g hh e => h.a.d g hh (hr g e))
  have g2 := grownOut V' ob 2 (.slice x3 qs.length k3)
  refine ⟨⟨he.kept g2 (fun g hh e => by cases e; exact h.n1 hh), hp.kept g2 (fun g hh e => by cases e; exact n3 hh), h.a.s1, hs, fun g h1 h2 => ?_⟩, (h.o.grown hg hne).set2 _, h.n1, n3, ?_, h.l⟩
  · rcases hb g h2 with h3 | h3
    · exact h.a.d g h1 h3
    · exact h3.1 h1
  · exact (h.g.grown hg h.sz hlow).grown g2 (Nat.le_trans h.sz hg.size) (fun q e => by cases e; exact h.l)
/-- One edit more. -/
theorem AeS.edit (h : AeS n₀ X ob es ps x1 k1 V1 x2 k2 V2 V) {p : Int} {zs : List Int} {u : Value} {x3 : Option Addr} {k3 : Nat} (hu : Gb n₀ V u zs) (hfr : ∀ g, u.ownBlock = some g → ¬ blkP (.slice x1 es.length k1) V1 g ∧ ¬ blkP (.slice x2 ps.length k2) V2 g ∧ g ≠ ob) (hrow : V'.ownsRow n₀ 192 2 (.slice x3 (es.length + 1) k3) (es.length + 1) (edC es V1 ++ [.int .i64 p, u])) (hg : V.grownBy V' (Value.slice x1 es.length k1).ownBlock) (hv : (Value.slice x3 (es.length + 1) k3).ownBlock = (Value.slice x1 es.length k1).ownBlock ∨ (Value.slice x3 (es.length + 1) k3).ownBlock = some V.heap.size) : AeS n₀ X ob (es ++ [(p, zs)]) ps x3 k3 (V1 ++ [u]) x2 k2 V2 (V'.setCell ⟨ob, 1, none⟩ (.slice x3 (es.length + 1) k3)) := by
  have hl : (es ++ [(p, zs)]).length = es.length + 1 := by simp
  have hr : ∀ g, (Value.slice x1 es.length k1).ownBlock = some g → blkP (.slice x1 es.length k1) V1 g := fun g e => .inl e
  have hne : (Value.slice x1 es.length k1).ownBlock ≠ some ob := fun e => h.n1 (hr ob e)
  have hb : ∀ g, blkP (.slice x3 (es.length + 1) k3) (V1 ++ [u]) g → blkP (.slice x1 es.length k1) V1 g ∨ g = V.heap.size ∨ u.ownBlock = some g := fun g hh => blk_append hh hv
  have n3 : ¬ blkP (.slice x3 (es.length + 1) k3) (V1 ++ [u]) ob := fun hh => by
    rcases hb ob hh with h1 | h1 | h1
    · exact h.n1 h1
    · have := h.o.lt; omega
    · exact (hfr ob h1).2.2 rfl
  have hlow : ∀ g, (Value.slice x1 es.length k1).ownBlock = some g → n₀ ≤ g := fun g e => (h.a.e.lt (hr g e)).1
  have he := h.a.e.append (p := p) hu hrow hg
  have hp : PgB n₀ V' (.slice x2 ps.length k2) ps V2 := h.a.p.kept hg (fun g hh e => h.a.d g (hr g e) hh)
  have g2 := grownOut V' ob 1 (.slice x3 (es.length + 1) k3)
  refine ⟨⟨?_, hp.kept g2 (fun g hh e => by cases e; exact h.n2 hh), sep_append h.a.s1 (fun x hx g e1 e2 => (hfr g e1).1 (.inr ⟨x, hx, e2⟩)), h.a.s2, fun g h1 h2 => ?_⟩, ?_, ?_, h.n2, ?_, h.l⟩
  · rw [hl]; exact he.kept g2 (fun g hh e => by cases e; exact n3 hh)
  · rw [hl] at h1
    rcases hb g h1 with h3 | h3 | h3
    · exact h.a.d g h3 h2
    · have := (h.a.p.lt h2).2; omega
    · exact (hfr g h3).2.1 h2
  · rw [hl]; exact (h.o.grown hg hne).set1 _
  · rw [hl]; exact n3
  · exact (h.g.grown hg h.sz hlow).grown g2 (Nat.le_trans h.sz hg.size) (fun q e => by cases e; exact h.l)
end

theorem infoE' : (Try.prog.info? 192).map (fun i => (i.zero, i.size, i.bytes)) = some (some (.agg #[.int .i64 0, .slice none 0 0]), 2, 32) := by kernel_rfl
theorem infoE : ∃ i, Try.prog.info? 192 = some i ∧ i.zero = some (.agg #[.int .i64 0, .slice none 0 0]) ∧ i.size = 2 ∧ i.bytes = 32 := by
  have h := infoE'
  cases hi : Try.prog.info? 192 with
  | none => rw [hi] at h; simp at h
  | some i => rw [hi] at h; simp at h; exact ⟨i, rfl, h.1, h.2.1, h.2.2⟩
theorem run_append_ed (w : World) (base : Nat) (ty : TypeId) (v : Value) (n : Nat) (xs : List Value) (b : Nat) (p : Int) (u : Value) (hown : w.ownsRow base 192 2 v n xs) (hc : w.cell? ⟨b, 0, none⟩ = some (.int .i64 p)) (hc1 : w.cell? ⟨b, 1, none⟩ = some u) (h1 : u.oneCell' = true) (hl : n + 1 ≤ 100000000) (hb : base ≤ w.heap.size) :
    ∃ v' w', (Builtin.append_ #[60, 60] ty #[v, .slice (some ⟨b, 0, none⟩) 1 1]).run Try.prog w = .ok v' w' ∧ w'.ownsRow base 192 2 v' (n + 1) (xs ++ [.int .i64 p, u]) ∧ w.grownBy w' v.ownBlock ∧ (v'.ownBlock = v.ownBlock ∨ v'.ownBlock = some w.heap.size) := by
  obtain ⟨i0, hi0, hz0, hz1, hz2⟩ := infoE
  obtain ⟨v', w', a1, a2, a3, _, a5⟩ := run_append_own_at (P := Try.prog) w base 60 ty 192 i0 (.agg #[.int .i64 0, .slice none 0 0]) 2 32 Try.underlying60 hi0 hz0 hz1 hz2 rfl (by decide) v n xs hown ⟨b, 0, none⟩ 1 1 [.int .i64 p, u] rfl (fun j y hy => by
    match j, hy with
    | 0, hy => simp at hy; subst hy; exact hc
    | 1, hy => simp at hy; subst hy; exact hc1) (fun y hy => by simp at hy; rcases hy with rfl | rfl; rfl; exact h1) (by unfold maxLen; omega) (by omega) hb
  exact ⟨v', w', a1, a2, a3, a5⟩

theorem wp_append_pg (w : World) {o : Oper} {a : Act} {K : Act → World → Prop} {Q : Exit → Act → World → Prop} (s x : Operand)
    (ho : o.op = .call { callee := .builtin .append, args := #[s, x], argTypes := #[35, 35] }) (base : Nat) (v : Value) (n : Nat) (V : List Value) (b : Nat) (u : Value) (hs : a.eval s = v) (hx : a.eval x = .slice (some ⟨b, 0, none⟩) 1 1)
    (hown : w.ownsRow base 106 1 v n V) (hc : w.cell? ⟨b, 0, none⟩ = some u) (h1 : u.oneCell' = true) (hl : n + 1 ≤ 100000000) (hb : base ≤ w.heap.size)
    (h : ∀ v' w', w'.ownsRow base 106 1 v' (n + 1) (V ++ [u]) → w.grownBy w' v.ownBlock → (v'.ownBlock = v.ownBlock ∨ v'.ownBlock = some w.heap.size) → K (a.put o.dst v') w') : o.wp Try.prog a w K Q := by
  obtain ⟨v', w', r1, r2, r3, r4⟩ := run_append_pg w base o.type v n V b u hown hc h1 hl hb
  exact Go.Lib.wp_append_run w s x 35 35 ho v _ hs hx v' w' r1 (h v' w' r2 r3 r4)
theorem wp_append_ed (w : World) {o : Oper} {a : Act} {K : Act → World → Prop} {Q : Exit → Act → World → Prop} (s x : Operand)
    (ho : o.op = .call { callee := .builtin .append, args := #[s, x], argTypes := #[60, 60] }) (base : Nat) (v : Value) (n : Nat) (xs : List Value) (b : Nat) (p : Int) (u : Value) (hs : a.eval s = v) (hx : a.eval x = .slice (some ⟨b, 0, none⟩) 1 1)
    (hown : w.ownsRow base 192 2 v n xs) (hc : w.cell? ⟨b, 0, none⟩ = some (.int .i64 p)) (hc1 : w.cell? ⟨b, 1, none⟩ = some u) (h1 : u.oneCell' = true) (hl : n + 1 ≤ 100000000) (hb : base ≤ w.heap.size)
    (h : ∀ v' w', w'.ownsRow base 192 2 v' (n + 1) (xs ++ [.int .i64 p, u]) → w.grownBy w' v.ownBlock → (v'.ownBlock = v.ownBlock ∨ v'.ownBlock = some w.heap.size) → K (a.put o.dst v') w') : o.wp Try.prog a w K Q := by
  obtain ⟨v', w', r1, r2, r3, r4⟩ := run_append_ed w base o.type v n xs b p u hown hc hc1 h1 hl hb
  exact Go.Lib.wp_append_run w s x 60 60 ho v _ hs hx v' w' r1 (h v' w' r2 r3 r4)

end Go.Proofs.Yteebbaleejbodaa
