/-
  A page turned, whichever it is: the program's putEdit and the model's l7Turn.
-/
import Derived.Test.YtnfolgoloaeanaaGreatULtn
import Derived.Test.YtnfolgoloaeanaaGreatUPea

namespace Go.Proofs.YtnfolgoloaeanaaGreat
open Go.RowKit
set_option linter.unusedVariables false

/-- A page more: what withPage hands back. -/
def WnPost (n₀ : Nat) (v : Value) (qs : List (List Int)) (V : List Value) (u : Value) (w : World) (e : Ending) (w' : World) : Prop := ∃ x' k' V', e = .returned (.slice x' qs.length k') ∧ w.grownBy w' v.ownBlock ∧ PgB n₀ w' (.slice x' qs.length k') qs V' ∧ SepV V' ∧ ∀ g, blkP (.slice x' qs.length k') V' g → blkP v V g ∨ u.ownBlock = some g ∨ w.heap.size ≤ g

set_option maxHeartbeats 1000000 in
theorem withPage_new (n₀ : Nat) (x : Option Addr) (n c : Nat) (ps : List (List Int)) (V : List Value) (au : Option Addr) (zl cu : Nat) (zs : List Int) (w : World) (hn : ps.length = n) (hm : n ≤ 1048576) (h : PgB n₀ w (.slice x n c) ps V) (hS : SepV V) (hu : Gb n₀ w (.slice au zl cu) zs) (hfr : ∀ y ∈ V, ∀ g, Value.ownBlock (.slice au zl cu) = some g → y.ownBlock ≠ some g) (hb : n₀ ≤ w.heap.size) :
    Calls Tryz.prog 141 #[.slice x n c, .int .i64 n, .slice au zl cu] w fun e w' => WnPost n₀ (.slice x n c) (ps ++ [zs]) V (.slice au zl cu) w e w' := by
  have HN : Hid (ps.length = n) := hn
  have gL : Below w.heap.size w (w.alloc (.cells #[.slice au zl cu] 22)) := by go_grown
  have hP2 := h.below gL
  have hu2 : Gb n₀ (w.alloc (.cells #[.slice au zl cu] 22)) (.slice au zl cu) zs := hu.below gL
  have HR : Hid ((w.alloc (.cells #[.slice au zl cu] 22)).ownsRow n₀ 22 1 (.slice x n c) n V) := by
    show World.ownsRow _ _ _ _ _ _ _
    have := hP2.row
    rw [HN.out] at this
    exact this
  clear hn
  go_enter Tryz.func141, Tryz.ntmps141
  go_wp2_with (at_builtin; refine wpList_append_pg _ rfl _ _ rfl n₀ _ n V w.heap.size (.slice au zl cu) rfl rfl HR.out (by simp [go_sem]) rfl (by omega) (by simp; omega) ?_)
  intro v' w2 hown' hgrow hob
  have hP3 : PgB n₀ w2 v' (ps ++ [zs]) (V ++ [.slice au zl cu]) := hP2.append hu2 (by rw [HN.out]; exact hown') hgrow
  have hs3 := sep_append hS (u := .slice au zl cu) (fun y hy g e1 e2 => hfr y hy g e1 e2)
  obtain ⟨x3, k3, hv3⟩ : ∃ x3 k3, v' = .slice x3 (ps ++ [zs]).length k3 := by
    rcases hP3.row.2 with ⟨e1, h0⟩ | ⟨g3, cap3, cur3, e3, _⟩
    · simp at h0
    · exact ⟨_, _, e3⟩
  subst hv3
  have HF : Hid (WnPost n₀ (.slice x n c) (ps ++ [zs]) V (.slice au zl cu) w (.returned (.slice x3 (ps ++ [zs]).length k3)) w2) := by
    refine ⟨x3, k3, _, rfl, ⟨hgrow.os.trans gL.os, hgrow.tape.trans gL.tape, hgrow.output.trans gL.output, Nat.le_trans gL.size hgrow.size, fun k hk hne => (hgrow.block k (Nat.lt_of_lt_of_le hk gL.size) hne).trans (gL.block k hk)⟩, hP3, hs3, fun g hg => ?_⟩
    have hgs := gL.size
    rcases blk_append (n₀ := w.heap.size + 1) (v := .slice x n c) hg (by simpa using hob) with h1 | h1 | h1
    · exact .inl h1
    · exact .inr (.inr (by omega))
    · exact .inr (.inl h1)
  clear hown' hgrow gL hob hP2 hu2 h hS hu hfr HR hP3 hs3
  generalize (ps ++ [zs]).length = nl at HF ⊢
  go_wp2_with fail
  go_ret
  exact HF.out

/-- The same pages' row, and nothing turned but what is in D. -/
def R4X (sb : Nat → Prop) (B : Nat → Option Obj) (n₀ : Nat) (X : World) (ob : Nat) (es : List (Int × List Int)) (qs : List (List Int)) (x2 : Option Addr) (k2 : Nat) (V : World) : Prop := ∃ x1 k1 V1 V2, HpX sb B n₀ X ob es qs x1 k1 V1 x2 k2 V2 V
def PxPost (sb : Nat → Prop) (B : Nat → Option Obj) (n₀ : Nat) (X : World) (ob : Nat) (es : List (Int × List Int)) (qs : List (List Int)) (x2 : Option Addr) (k2 : Nat) (D : Nat → Prop) (w : World) (e : Ending) (V : World) : Prop := e = .returned (.tuple #[]) ∧ R4X sb B n₀ X ob es qs x2 k2 V ∧ TurnS D w V
set_option maxRecDepth 20000 in
set_option maxHeartbeats 4000000 in
theorem putEdit_oldX (sb : Nat → Prop) (B : Nat → Option Obj) (n₀ : Nat) (X : World) (ob : Nat) (es : List (Int × List Int)) (cur : List (List Int)) (x1 : Option Addr) (k1 : Nat) (V1 : List Value) (x2 : Option Addr) (k2 : Nat) (V2 : List Value) (pn : Nat) (xa : Option Addr) (c : Nat) (zs old : List Int) (w : World) (hS : HpX sb B n₀ X ob es cur x1 k1 V1 x2 k2 V2 w) (hp : cur[pn]? = some old) (ho : ∀ z ∈ old, 0 ≤ z ∧ z ≤ 255) (hz : ∀ z ∈ zs, 0 ≤ z ∧ z ≤ 255) (hne : old ≠ zs) (h64 : zs.length = 64) (hc12 : cur.length ≤ 12) (hel : es.length ≤ 1000) (hu : Gb n₀ w (.slice xa 64 c) zs) (hfr : ∀ g, (Value.slice xa 64 c).ownBlock = some g → ¬ blkP (.slice x1 es.length k1) V1 g ∧ ¬ blkP (.slice x2 cur.length k2) V2 g ∧ g ≠ ob) (hfs : ∀ g, (Value.slice xa 64 c).ownBlock = some g → ¬ sb g) (D : Nat → Prop) (hD1 : ∀ g, blkP (.slice x1 es.length k1) V1 g → D g) (hD2 : ∀ g, blkP (.slice x2 cur.length k2) V2 g → D g) (hD3 : D ob) :
    Calls Tryz.prog 86 #[.pointer (some ⟨ob, 0, none⟩), .int .i64 pn, .slice xa 64 c] w fun e w' => PxPost sb B n₀ X ob (es ++ [((pn : Int), zs)]) (cur.set pn zs) x2 k2 D w e w' := by
  have hpl : pn < cur.length := (List.getElem?_eq_some_iff.1 hp).1
  obtain ⟨gp, hx2⟩ : ∃ gp, x2 = some ⟨gp, 0, none⟩ := by
    rcases hS.a.p.row.2 with ⟨_, h0⟩ | ⟨gp, cap, cu, e, _⟩
    · omega
    · cases e; exact ⟨gp, rfl⟩
  subst hx2
  obtain ⟨y0, hy0⟩ : ∃ y, V2[pn]? = some y := ⟨_, List.getElem?_eq_getElem (by rw [hS.a.p.len]; omega)⟩
  have hyb := hS.a.p.by' pn y0 old hy0 hp
  obtain ⟨ay, cy, fy, hye, hby, _⟩ := Gb.one hyb
  have c8 := hS.a.p.row.cellAt pn (by omega)
  rw [hy0, hye] at c8
  have f8 : w.frozen? ⟨gp, pn, none⟩ = false := hS.a.p.row.frozenAt _
  have dn : (((pn : Nat) : Int) == (cur.length : Int)) = false := by
    have : ¬ ((pn : Int) = (cur.length : Int)) := by omega
    simpa using this
  have hpi : (pn : Int) < (cur.length : Int) := by omega
  have hbe := bytesEqual_any ay xa old.length 64 cy c old zs w rfl h64 hby.reads hu.rd ho hz
  rw [show decide (old = zs) = false by simpa using hne] at hbe
  have hwp := withPage_set gp pn cur.length k2 _ (.slice xa 64 c) w hpl c8 f8 ⟨_, _, _, rfl⟩
  have hN := hS.setPage (i := pn) hpl hu hfr hfs
  have hu1 : Gb n₀ (w.setCell ⟨gp, pn, none⟩ (.slice xa 64 c)) (.slice xa 64 c) zs := Gb.other hu (a := ⟨gp, pn, none⟩) (fun e => (hfr gp e).2.1 (.inl rfl)) _
  have hT0 : TurnS D w (w.setCell ⟨gp, pn, none⟩ (.slice xa 64 c)) := (TurnS.refl D w).setCell (hD2 gp (.inl rfl)) _
  have hql : (cur.set pn zs).length = cur.length := List.length_set
  obtain ⟨o0, o1, p0, p1⟩ := hS.o
  obtain ⟨qs, hqs⟩ : ∃ qs, cur.set pn zs = qs := ⟨_, rfl⟩
  rw [hqs] at hN hql
  have HQs : Hid (cur.set pn zs = qs) := hqs
  have HFr : Hid _ := hfr
  have HZ : Hid (zs.length = 64) := h64
  clear hqs hyb hby hye hy0 hS hu hp hfr h64 hne ho hz
  go_enter Tryz.func86, Tryz.ntmps86
  go_upto_region 2 with (go_at_call 140; refine hbe.mono ?_; rintro e w1 ⟨rfl, hw1⟩; subst w1)
  go_wp2_with (go_at_call 141; refine hwp.mono ?_)
  rintro e w1 ⟨rfl, hw1⟩
  rw [← hw1] at hN hu1 hT0
  clear hw1 hwp hbe dn hpi c8 f8 o0 o1 p0 p1
  have hN2 := hN.pages (V' := w1) (row := none) (x3 := some ⟨gp, 0, none⟩) (k3 := k2) ⟨rfl, rfl, rfl, Nat.le_refl _, fun _ _ _ => rfl⟩ (fun g e => by cases e) hN.a.p hN.a.s2 (fun g hg => .inl hg) (fun g hg => .inl hg)
  have hu2 : Gb n₀ (w1.setCell ⟨ob, 0, none⟩ (.slice (some ⟨gp, 0, none⟩) qs.length k2)) (.slice xa 64 c) zs := Gb.other hu1 (a := ⟨ob, 0, none⟩) (fun e => (HFr.out ob e).2.2 rfl) _
  have hT := hT0.setCell (p := ⟨ob, 0, none⟩) hD3 (.slice (some ⟨gp, 0, none⟩) cur.length k2)
  clear hT0
  obtain ⟨o0, o1, p0, p1⟩ := hN.o
  rw [hql] at o0 hN2 hu2
  go_upto_region 3 with (fail)
  have HX : Hid (xa = none → c = 0) := fun e => by
    subst e
    obtain ⟨tt, _, hh⟩ := hu1
    rcases hh.2 with ⟨e1, _⟩ | ⟨_, _, _, e1, _⟩
    · injection e1
    · cases e1
  clear hN hu1 o0 o1 p0 p1
  have hN := hN2
  have hu1 := hu2
  clear hN2 hu2
  generalize V2.set pn (.slice xa 64 c) = V3 at hN
  generalize w1.setCell ⟨ob, 0, none⟩ (.slice (some ⟨gp, 0, none⟩) cur.length k2) = wq at hN hu1 hT ⊢
  refine wp_region_held_drew (S := fun _ => True) (by kernel_rfl) trivial (fun hHeld => ?_)
  have hS := hN.below (Below.refl wq.heap.size wq).drew
  have hT := hT.trans (TurnS.ofBelow (S := D) (Below.refl wq.heap.size wq).drew)
  have hu0 := hu1.below (Below.refl wq.heap.size wq).drew
  clear hN hu1
  generalize wq.drew = wD at hHeld hS hu0 hT ⊢
  generalize V3 = V2 at hS
  refine tkH (i := 0) (v := ?v69) rfl (Or.inl ⟨by kernel_rfl, ?h69⟩) hHeld ?_
  case h69 => intro u hSw; skip; go_simp; try with_reducible rfl
  try simp only [Act.put, tdy]
  refine tkH (i := 1) (v := ?v70) rfl (Or.inl ⟨by kernel_rfl, ?h70⟩) hHeld ?_
  case h70 => intro u hSw; skip; go_simp; try with_reducible rfl
  try simp only [Act.put, tdy]
  refine tkH (i := 2) (v := ?v71) rfl (Or.inl ⟨by kernel_rfl, ?h71⟩) hHeld ?_
  case h71 => intro u hSw; skip; go_simp; try with_reducible rfl
  try simp only [Act.put, tdy]
  refine tkH (i := 3) (v := ?v72) rfl (Or.inl ⟨by kernel_rfl, ?h72⟩) hHeld ?_
  case h72 => intro u hSw; skip; go_simp; try with_reducible rfl
  try simp only [Act.put, tdy]
  refine tkH (i := 5) (v := ?v73) rfl (Or.inl ⟨by kernel_rfl, ?h73⟩) hHeld ?_
  case h73 => intro u hSw; skip; go_simp; try with_reducible rfl
  try simp only [Act.put, tdy]
  refine tkH (i := 6) (v := ?v74) rfl (Or.inl ⟨by kernel_rfl, ?h74⟩) hHeld ?_
  case h74 => intro u hSw; skip; go_simp; try with_reducible rfl
  try simp only [Act.put, tdy]
  refine wpAnyH_ready (rs := [4, 7]) (by kernel_rfl) (by simp) ?_
  refine AllReadyH.cons rfl (fun K hK => ?_) (AllReadyH.cons rfl (fun K hK => ?_) AllReadyH.nil)
  ·
    have c4 := hS.o.c1
    go_simp
    go_wp2_with fail
    refine hK.out _ _ trivial (fun hHeld => ?_)
    clear hK K c4
    try simp only [Act.put, tdy]
    refine wpAnyH_ready (rs := [7]) (by kernel_rfl) (by simp) ?_
    refine AllReadyH.cons rfl (fun K hK => ?_) AllReadyH.nil
    have hsD := hS.sz
    have hAf := hS.a
    have hol := hS.o.lt
    have hsl := hS.ls
    go_simp
    go_wp2_with (go_at_call 87; refine (clone_gen xa zs 64 c _ HZ.out (by omega) hu0.rd HX.out).mono ?_; rintro e w6 ⟨u, rfl, g6, hu⟩; obtain ⟨au, cu, hu0'⟩ := hu.form; rw [HZ.out] at hu0'; subst hu0')
    refine hK.out _ _ (trivial) (fun hHeld => ?_)
    clear hK K
    have hfr : ∀ g, (Value.slice au 64 cu).ownBlock = some g → ¬ blkP (.slice x1 es.length k1) V1 g ∧ ¬ blkP (.slice (some ⟨gp, 0, none⟩) qs.length k2) V2 g ∧ g ≠ ob := fun g e => by
      have h1 := (Gb.lt hu g e).1
      exact ⟨fun hh => by have := (hAf.e.lt hh).2; omega, fun hh => by have := (hAf.p.lt hh).2; omega, fun hh => by omega⟩
    have hfs : ∀ g, (Value.slice au 64 cu).ownBlock = some g → ¬ sb g := fun g e hq => by
      have h1 := (Gb.lt hu g e).1
      have h2 := hsl g hq
      omega
    have hu : Gb n₀ w6 (.slice au 64 cu) zs := hu.base hsD
    have hS := hS.below g6
    have hT := hT.trans (TurnS.ofBelow (S := D) g6)
    have hu0 := hu0.below g6
    clear g6 hsD hAf hol
    try simp only [Act.put, tdy]
    refine tkH (i := 8) (v := ?v75) rfl (Or.inl ⟨by kernel_rfl, ?h75⟩) hHeld ?_
    case h75 => intro u hSw; skip; go_simp; try with_reducible rfl
    try simp only [Act.put, tdy]
    refine wpAnyH_ready (rs := [9]) (by kernel_rfl) (by simp) ?_
    refine AllReadyH.cons rfl (fun K hK => ?_) AllReadyH.nil
    have gL : Below w6.heap.size w6 (w6.alloc (.cells #[.int .i64 (pn : Nat), .slice au 64 cu] 133)) := (Below.refl _ w6).alloc (Nat.le_refl _) _
    have hcu : (w6.alloc (.cells #[.int .i64 (pn : Nat), .slice au 64 cu] 133)).cell? ⟨w6.heap.size, 0, none⟩ = some (.int .i64 (pn : Nat)) := by simp [go_sem]
    have hcv : (w6.alloc (.cells #[.int .i64 (pn : Nat), .slice au 64 cu] 133)).cell? ⟨w6.heap.size, 1, none⟩ = some (.slice au 64 cu) := by simp [go_sem]
    go_simp
    go_wp2_with fail
    refine hK.out _ _ trivial (fun hHeld => ?_)
    clear hK K
    have hu := hu.below gL
    have hu0 := hu0.below gL
    have hS := hS.below gL
    have hT := hT.trans (TurnS.ofBelow (S := D) gL)
    generalize w6.heap.size = nb at hcu hcv gL ⊢
    generalize hW7 : w6.alloc (.cells #[.int .i64 (pn : Nat), .slice au 64 cu] 133) = w7 at hS hT hu hcu hcv hHeld gL ⊢
    clear gL hW7
    try simp only [Act.put, tdy]
    refine wpAnyH_ready (rs := [10]) (by kernel_rfl) (by simp) ?_
    refine AllReadyH.cons rfl (fun K hK => ?_) AllReadyH.nil
    have hlow : ∀ q, (Value.slice x1 es.length k1).ownBlock = some q → n₀ ≤ q := fun q e => (hS.a.e.row.lt q e).1
    rw [if_pos (by kernel_rfl)]
    refine wp_append_ed _ _ _ rfl n₀ _ es.length (edC es V1) nb (pn : Nat) (.slice au 64 cu) rfl rfl hS.a.e.row hcu hcv rfl (by omega) hS.sz ?_
    intro v' w8 hown' hgrow hob
    refine hK.out _ _ trivial (fun hHeld => ?_)
    clear hK K
    obtain ⟨x3, k3, hv3⟩ : ∃ x3 k3, v' = .slice x3 (es.length + 1) k3 := by
      rcases hown'.2 with ⟨_, h0⟩ | ⟨g3, cap3, cur3, e3, _⟩
      · omega
      · exact ⟨_, _, e3⟩
    subst hv3
    have hN := hS.edit (p := (pn : Nat)) (zs := zs) hu hfr hfs hown' hgrow hob
    have hT := (hT.trans (TurnS.ofGrown (S := D) hgrow (fun q e => hD1 q (.inl e)))).setCell (p := ⟨ob, 1, none⟩) hD3 (.slice x3 (es.length + 1) k3)
    have c8 := (hS.o.grown hgrow (fun e => hS.n1 (.inl e))).c1
    have f8 := (hS.o.grown hgrow (fun e => hS.n1 (.inl e))).f1
    have _gS : Below n₀ w8 (w8.setCell ⟨ob, 1, none⟩ (.slice x3 (es.length + 1) k3)) := Below.grown (Below.refl _ _) (grownOut w8 ob 1 _) (Nat.le_trans hS.sz hgrow.size) (fun q e => by cases e; exact hS.l)
    clear _gS hown' hgrow hob hS hu hcu hcv hlow hfr
    generalize es.length + 1 = nl at hN c8 f8 hT ⊢
    try simp only [Act.put, tdy]
    refine tkH (i := 11) (v := ?v76) rfl (Or.inl ⟨by kernel_rfl, ?h76⟩) hHeld ?_
    case h76 => intro u hSw; skip; go_simp; try with_reducible rfl
    try simp only [Act.put, tdy]
    refine tkH (i := 12) (v := ?v77) rfl (Or.inl ⟨by kernel_rfl, ?h77⟩) hHeld ?_
    case h77 => intro u hSw; skip; go_simp; try with_reducible rfl
    try simp only [Act.put, tdy]
    refine wpAnyH_ready (rs := [13]) (by kernel_rfl) (by simp) ?_
    refine AllReadyH.cons rfl (fun K hK => ?_) AllReadyH.nil
    go_simp
    refine hK.out _ _ trivial (fun hHeld => ?_)
    clear hK K c8 f8
    try simp only [Act.put, tdy]
    refine wpAnyH_done (by kernel_rfl) ?_ _
    have HF : Hid (R4X sb B n₀ X ob (es ++ [((pn : Int), zs)]) qs (some ⟨gp, 0, none⟩) k2 (w8.setCell ⟨ob, 1, none⟩ (.slice x3 nl k3)) ∧ TurnS D w (w8.setCell ⟨ob, 1, none⟩ (.slice x3 nl k3))) := ⟨⟨_, _, _, _, hN⟩, hT⟩
    clear hN hHeld hT
    go_wp2_with fail
    go_end0
    exact ⟨rfl, by rw [HQs.out]; exact HF.out.1, HF.out.2⟩
  ·
    have hsD := hS.sz
    have hAf := hS.a
    have hol := hS.o.lt
    have hsl := hS.ls
    go_simp
    go_wp2_with (go_at_call 87; refine (clone_gen xa zs 64 c _ HZ.out (by omega) hu0.rd HX.out).mono ?_; rintro e w6 ⟨u, rfl, g6, hu⟩; obtain ⟨au, cu, hu0'⟩ := hu.form; rw [HZ.out] at hu0'; subst hu0')
    refine hK.out _ _ (trivial) (fun hHeld => ?_)
    clear hK K
    have hfr : ∀ g, (Value.slice au 64 cu).ownBlock = some g → ¬ blkP (.slice x1 es.length k1) V1 g ∧ ¬ blkP (.slice (some ⟨gp, 0, none⟩) qs.length k2) V2 g ∧ g ≠ ob := fun g e => by
      have h1 := (Gb.lt hu g e).1
      exact ⟨fun hh => by have := (hAf.e.lt hh).2; omega, fun hh => by have := (hAf.p.lt hh).2; omega, fun hh => by omega⟩
    have hfs : ∀ g, (Value.slice au 64 cu).ownBlock = some g → ¬ sb g := fun g e hq => by
      have h1 := (Gb.lt hu g e).1
      have h2 := hsl g hq
      omega
    have hu : Gb n₀ w6 (.slice au 64 cu) zs := hu.base hsD
    have hS := hS.below g6
    have hT := hT.trans (TurnS.ofBelow (S := D) g6)
    have hu0 := hu0.below g6
    clear g6 hsD hAf hol
    try simp only [Act.put, tdy]
    refine tkH (i := 8) (v := ?v78) rfl (Or.inl ⟨by kernel_rfl, ?h78⟩) hHeld ?_
    case h78 => intro u hSw; skip; go_simp; try with_reducible rfl
    try simp only [Act.put, tdy]
    refine wpAnyH_ready (rs := [4, 9]) (by kernel_rfl) (by simp) ?_
    refine AllReadyH.cons rfl (fun K hK => ?_) (AllReadyH.cons rfl (fun K hK => ?_) AllReadyH.nil)
    ·
      have c4 := hS.o.c1
      go_simp
      go_wp2_with fail
      refine hK.out _ _ trivial (fun hHeld => ?_)
      clear hK K c4
      try simp only [Act.put, tdy]
      refine wpAnyH_ready (rs := [9]) (by kernel_rfl) (by simp) ?_
      refine AllReadyH.cons rfl (fun K hK => ?_) AllReadyH.nil
      have gL : Below w6.heap.size w6 (w6.alloc (.cells #[.int .i64 (pn : Nat), .slice au 64 cu] 133)) := (Below.refl _ w6).alloc (Nat.le_refl _) _
      have hcu : (w6.alloc (.cells #[.int .i64 (pn : Nat), .slice au 64 cu] 133)).cell? ⟨w6.heap.size, 0, none⟩ = some (.int .i64 (pn : Nat)) := by simp [go_sem]
      have hcv : (w6.alloc (.cells #[.int .i64 (pn : Nat), .slice au 64 cu] 133)).cell? ⟨w6.heap.size, 1, none⟩ = some (.slice au 64 cu) := by simp [go_sem]
      go_simp
      go_wp2_with fail
      refine hK.out _ _ trivial (fun hHeld => ?_)
      clear hK K
      have hu := hu.below gL
      have hu0 := hu0.below gL
      have hS := hS.below gL
      have hT := hT.trans (TurnS.ofBelow (S := D) gL)
      generalize w6.heap.size = nb at hcu hcv gL ⊢
      generalize hW7 : w6.alloc (.cells #[.int .i64 (pn : Nat), .slice au 64 cu] 133) = w7 at hS hT hu hcu hcv hHeld gL ⊢
      clear gL hW7
      try simp only [Act.put, tdy]
      refine wpAnyH_ready (rs := [10]) (by kernel_rfl) (by simp) ?_
      refine AllReadyH.cons rfl (fun K hK => ?_) AllReadyH.nil
      have hlow : ∀ q, (Value.slice x1 es.length k1).ownBlock = some q → n₀ ≤ q := fun q e => (hS.a.e.row.lt q e).1
      rw [if_pos (by kernel_rfl)]
      refine wp_append_ed _ _ _ rfl n₀ _ es.length (edC es V1) nb (pn : Nat) (.slice au 64 cu) rfl rfl hS.a.e.row hcu hcv rfl (by omega) hS.sz ?_
      intro v' w8 hown' hgrow hob
      refine hK.out _ _ trivial (fun hHeld => ?_)
      clear hK K
      obtain ⟨x3, k3, hv3⟩ : ∃ x3 k3, v' = .slice x3 (es.length + 1) k3 := by
        rcases hown'.2 with ⟨_, h0⟩ | ⟨g3, cap3, cur3, e3, _⟩
        · omega
        · exact ⟨_, _, e3⟩
      subst hv3
      have hN := hS.edit (p := (pn : Nat)) (zs := zs) hu hfr hfs hown' hgrow hob
      have hT := (hT.trans (TurnS.ofGrown (S := D) hgrow (fun q e => hD1 q (.inl e)))).setCell (p := ⟨ob, 1, none⟩) hD3 (.slice x3 (es.length + 1) k3)
      have c8 := (hS.o.grown hgrow (fun e => hS.n1 (.inl e))).c1
      have f8 := (hS.o.grown hgrow (fun e => hS.n1 (.inl e))).f1
      have _gS : Below n₀ w8 (w8.setCell ⟨ob, 1, none⟩ (.slice x3 (es.length + 1) k3)) := Below.grown (Below.refl _ _) (grownOut w8 ob 1 _) (Nat.le_trans hS.sz hgrow.size) (fun q e => by cases e; exact hS.l)
      clear _gS hown' hgrow hob hS hu hcu hcv hlow hfr
      generalize es.length + 1 = nl at hN c8 f8 hT ⊢
      try simp only [Act.put, tdy]
      refine tkH (i := 11) (v := ?v79) rfl (Or.inl ⟨by kernel_rfl, ?h79⟩) hHeld ?_
      case h79 => intro u hSw; skip; go_simp; try with_reducible rfl
      try simp only [Act.put, tdy]
      refine tkH (i := 12) (v := ?v80) rfl (Or.inl ⟨by kernel_rfl, ?h80⟩) hHeld ?_
      case h80 => intro u hSw; skip; go_simp; try with_reducible rfl
      try simp only [Act.put, tdy]
      refine wpAnyH_ready (rs := [13]) (by kernel_rfl) (by simp) ?_
      refine AllReadyH.cons rfl (fun K hK => ?_) AllReadyH.nil
      go_simp
      refine hK.out _ _ trivial (fun hHeld => ?_)
      clear hK K c8 f8
      try simp only [Act.put, tdy]
      refine wpAnyH_done (by kernel_rfl) ?_ _
      have HF : Hid (R4X sb B n₀ X ob (es ++ [((pn : Int), zs)]) qs (some ⟨gp, 0, none⟩) k2 (w8.setCell ⟨ob, 1, none⟩ (.slice x3 nl k3)) ∧ TurnS D w (w8.setCell ⟨ob, 1, none⟩ (.slice x3 nl k3))) := ⟨⟨_, _, _, _, hN⟩, hT⟩
      clear hN hHeld hT
      go_wp2_with fail
      go_end0
      exact ⟨rfl, by rw [HQs.out]; exact HF.out.1, HF.out.2⟩
    ·
      have gL : Below w6.heap.size w6 (w6.alloc (.cells #[.int .i64 (pn : Nat), .slice au 64 cu] 133)) := (Below.refl _ w6).alloc (Nat.le_refl _) _
      have hcu : (w6.alloc (.cells #[.int .i64 (pn : Nat), .slice au 64 cu] 133)).cell? ⟨w6.heap.size, 0, none⟩ = some (.int .i64 (pn : Nat)) := by simp [go_sem]
      have hcv : (w6.alloc (.cells #[.int .i64 (pn : Nat), .slice au 64 cu] 133)).cell? ⟨w6.heap.size, 1, none⟩ = some (.slice au 64 cu) := by simp [go_sem]
      go_simp
      go_wp2_with fail
      refine hK.out _ _ trivial (fun hHeld => ?_)
      clear hK K
      have hu := hu.below gL
      have hu0 := hu0.below gL
      have hS := hS.below gL
      have hT := hT.trans (TurnS.ofBelow (S := D) gL)
      generalize w6.heap.size = nb at hcu hcv gL ⊢
      generalize hW7 : w6.alloc (.cells #[.int .i64 (pn : Nat), .slice au 64 cu] 133) = w7 at hS hT hu hcu hcv hHeld gL ⊢
      clear gL hW7
      try simp only [Act.put, tdy]
      refine wpAnyH_ready (rs := [4]) (by kernel_rfl) (by simp) ?_
      refine AllReadyH.cons rfl (fun K hK => ?_) AllReadyH.nil
      have c4 := hS.o.c1
      go_simp
      go_wp2_with fail
      refine hK.out _ _ trivial (fun hHeld => ?_)
      clear hK K c4
      try simp only [Act.put, tdy]
      refine wpAnyH_ready (rs := [10]) (by kernel_rfl) (by simp) ?_
      refine AllReadyH.cons rfl (fun K hK => ?_) AllReadyH.nil
      have hlow : ∀ q, (Value.slice x1 es.length k1).ownBlock = some q → n₀ ≤ q := fun q e => (hS.a.e.row.lt q e).1
      rw [if_pos (by kernel_rfl)]
      refine wp_append_ed _ _ _ rfl n₀ _ es.length (edC es V1) nb (pn : Nat) (.slice au 64 cu) rfl rfl hS.a.e.row hcu hcv rfl (by omega) hS.sz ?_
      intro v' w8 hown' hgrow hob
      refine hK.out _ _ trivial (fun hHeld => ?_)
      clear hK K
      obtain ⟨x3, k3, hv3⟩ : ∃ x3 k3, v' = .slice x3 (es.length + 1) k3 := by
        rcases hown'.2 with ⟨_, h0⟩ | ⟨g3, cap3, cur3, e3, _⟩
        · omega
        · exact ⟨_, _, e3⟩
      subst hv3
      have hN := hS.edit (p := (pn : Nat)) (zs := zs) hu hfr hfs hown' hgrow hob
      have hT := (hT.trans (TurnS.ofGrown (S := D) hgrow (fun q e => hD1 q (.inl e)))).setCell (p := ⟨ob, 1, none⟩) hD3 (.slice x3 (es.length + 1) k3)
      have c8 := (hS.o.grown hgrow (fun e => hS.n1 (.inl e))).c1
      have f8 := (hS.o.grown hgrow (fun e => hS.n1 (.inl e))).f1
      have _gS : Below n₀ w8 (w8.setCell ⟨ob, 1, none⟩ (.slice x3 (es.length + 1) k3)) := Below.grown (Below.refl _ _) (grownOut w8 ob 1 _) (Nat.le_trans hS.sz hgrow.size) (fun q e => by cases e; exact hS.l)
      clear _gS hown' hgrow hob hS hu hcu hcv hlow hfr
      generalize es.length + 1 = nl at hN c8 f8 hT ⊢
      try simp only [Act.put, tdy]
      refine tkH (i := 11) (v := ?v81) rfl (Or.inl ⟨by kernel_rfl, ?h81⟩) hHeld ?_
      case h81 => intro u hSw; skip; go_simp; try with_reducible rfl
      try simp only [Act.put, tdy]
      refine tkH (i := 12) (v := ?v82) rfl (Or.inl ⟨by kernel_rfl, ?h82⟩) hHeld ?_
      case h82 => intro u hSw; skip; go_simp; try with_reducible rfl
      try simp only [Act.put, tdy]
      refine wpAnyH_ready (rs := [13]) (by kernel_rfl) (by simp) ?_
      refine AllReadyH.cons rfl (fun K hK => ?_) AllReadyH.nil
      go_simp
      refine hK.out _ _ trivial (fun hHeld => ?_)
      clear hK K c8 f8
      try simp only [Act.put, tdy]
      refine wpAnyH_done (by kernel_rfl) ?_ _
      have HF : Hid (R4X sb B n₀ X ob (es ++ [((pn : Int), zs)]) qs (some ⟨gp, 0, none⟩) k2 (w8.setCell ⟨ob, 1, none⟩ (.slice x3 nl k3)) ∧ TurnS D w (w8.setCell ⟨ob, 1, none⟩ (.slice x3 nl k3))) := ⟨⟨_, _, _, _, hN⟩, hT⟩
      clear hN hHeld hT
      go_wp2_with fail
      go_end0
      exact ⟨rfl, by rw [HQs.out]; exact HF.out.1, HF.out.2⟩

set_option maxRecDepth 20000 in
set_option maxHeartbeats 4000000 in
theorem putEdit_same (sb : Nat → Prop) (B : Nat → Option Obj) (n₀ : Nat) (X : World) (ob : Nat) (es : List (Int × List Int)) (cur : List (List Int)) (x1 : Option Addr) (k1 : Nat) (V1 : List Value) (x2 : Option Addr) (k2 : Nat) (V2 : List Value) (pn : Nat) (xa : Option Addr) (c : Nat) (zs : List Int) (w : World) (hS : HpX sb B n₀ X ob es cur x1 k1 V1 x2 k2 V2 w) (hp : cur[pn]? = some zs) (hz : ∀ z ∈ zs, 0 ≤ z ∧ z ≤ 255) (h64 : zs.length = 64) (hr : Reads w xa zs) :
    Calls Tryz.prog 86 #[.pointer (some ⟨ob, 0, none⟩), .int .i64 pn, .slice xa 64 c] w fun e w' => TxPost sb B n₀ X ob es cur e w' := by
  have hpl : pn < cur.length := (List.getElem?_eq_some_iff.1 hp).1
  obtain ⟨gp, hx2⟩ : ∃ gp, x2 = some ⟨gp, 0, none⟩ := by
    rcases hS.a.p.row.2 with ⟨_, h0⟩ | ⟨gp, cap, cu, e, _⟩
    · omega
    · cases e; exact ⟨gp, rfl⟩
  subst hx2
  obtain ⟨y0, hy0⟩ : ∃ y, V2[pn]? = some y := ⟨_, List.getElem?_eq_getElem (by rw [hS.a.p.len]; omega)⟩
  have hyb := hS.a.p.by' pn y0 zs hy0 hp
  obtain ⟨ay, cy, fy, hye, hby, _⟩ := Gb.one hyb
  have c8 := hS.a.p.row.cellAt pn (by omega)
  rw [hy0, hye] at c8
  have dn : (((pn : Nat) : Int) == (cur.length : Int)) = false := by
    have : ¬ ((pn : Int) = (cur.length : Int)) := by omega
    simpa using this
  have hpi : (pn : Int) < (cur.length : Int) := by omega
  have hbe := bytesEqual_any ay xa zs.length 64 cy c zs zs w rfl h64 hby.reads hr hz hz
  rw [show decide (zs = zs) = true by simp] at hbe
  obtain ⟨o0, o1, p0, p1⟩ := hS.o
  have HF : Hid (R3X sb B n₀ X ob es cur w) := ⟨_, _, _, _, _, _, hS⟩
  clear hyb hby hye hy0 hS hp h64 hz hr
  go_enter Tryz.func86, Tryz.ntmps86
  go_wp2_with (go_at_call 140; refine hbe.mono ?_; rintro e w1 ⟨rfl, hw1⟩; subst w1)
  go_end0
  exact ⟨rfl, HF.out⟩

set_option maxRecDepth 20000 in
set_option maxHeartbeats 4000000 in
theorem putEdit_new (sb : Nat → Prop) (B : Nat → Option Obj) (n₀ : Nat) (X : World) (ob : Nat) (es : List (Int × List Int)) (cur : List (List Int)) (x1 : Option Addr) (k1 : Nat) (V1 : List Value) (x2 : Option Addr) (k2 : Nat) (V2 : List Value) (xa : Option Addr) (c pn : Nat) (zs : List Int) (w : World) (hpn : pn = cur.length) (hS : HpX sb B n₀ X ob es cur x1 k1 V1 x2 k2 V2 w) (h64 : zs.length = 64) (hc12 : cur.length ≤ 12) (hel : es.length ≤ 1000) (hu : Gb n₀ w (.slice xa 64 c) zs) (hfr : ∀ g, (Value.slice xa 64 c).ownBlock = some g → ¬ blkP (.slice x1 es.length k1) V1 g ∧ ¬ blkP (.slice x2 cur.length k2) V2 g ∧ g ≠ ob) (hfs : ∀ g, (Value.slice xa 64 c).ownBlock = some g → ¬ sb g) :
    Calls Tryz.prog 86 #[.pointer (some ⟨ob, 0, none⟩), .int .i64 pn, .slice xa 64 c] w fun e w' => TxPost sb B n₀ X ob (es ++ [((pn : Int), zs)]) (cur ++ [zs]) e w' := by
  have HPn : Hid (pn = cur.length) := hpn
  have dn : (((pn : Nat) : Int) == (cur.length : Int)) = true := by rw [hpn]; simp
  have hwp := withPage_new n₀ x2 cur.length k2 cur V2 xa 64 c zs w rfl (by omega) hS.a.p hS.a.s2 hu (fun y hy g e1 e2 => (hfr g e1).2.1 (.inr ⟨y, hy, e2⟩)) hS.sz
  have HW : Hid (Calls Tryz.prog 141 #[.slice x2 cur.length k2, .int .i64 cur.length, .slice xa 64 c] w fun e w' => WnPost n₀ (.slice x2 cur.length k2) (cur ++ [zs]) V2 (.slice xa 64 c) w e w') := hwp
  obtain ⟨o0, o1, p0, p1⟩ := hS.o
  have HFr : Hid _ := hfr
  have HFs : Hid (∀ g, (Value.slice xa 64 c).ownBlock = some g → ¬ sb g) := hfs
  have HZ : Hid (zs.length = 64) := h64
  have hol := hS.o.lt
  have hsl := hS.ls
  have HX : Hid (xa = none → c = 0) := fun e => by
    subst e
    obtain ⟨tt, _, hh⟩ := hu
    rcases hh.2 with ⟨e1, _⟩ | ⟨_, _, _, e1, _⟩
    · injection e1
    · cases e1
  have HS : Hid _ := hS
  have HU : Hid (Gb n₀ w (.slice xa 64 c) zs) := hu
  obtain ⟨cl, hcl⟩ : ∃ cl, cl = cur.length := ⟨_, rfl⟩
  rw [← hcl] at o0 dn
  have HCl : Hid (cl = cur.length) := hcl
  clear hS hu hfr hfs h64 hpn hwp hcl
  go_enter Tryz.func86, Tryz.ntmps86
  go_upto_region 2 with (fail)
  go_wp2_with fail
  rw [show cl = cur.length from HCl.out, show pn = cur.length from HPn.out]
  refine HW.out.mono ?_
  rintro e w1 ⟨x3, k3, V3, rfl, hg, hP3, hs3, hb3⟩
  have hS := HS.out
  have hN := hS.pages (qs := cur ++ [zs]) hg (fun g e => .inl e) hP3 hs3 (fun g hh => by
    rcases hb3 g hh with h1 | h1 | h1
    · exact .inl h1
    · exact .inr ⟨(HFr.out g h1).1, (HFr.out g h1).2.2⟩
    · exact .inr ⟨fun h2 => by have := (hS.a.e.lt h2).2; omega, fun h2 => by omega⟩) (fun g hh => by
    have hsl := hS.ls
    rcases hb3 g hh with h1 | h1 | h1
    · exact .inl h1
    · exact .inr (HFs.out g h1)
    · exact .inr (fun hq => by have := hsl g hq; omega))
  have c8 := (hS.o.grown hg (fun e => hS.n2 (.inl e))).c0
  have f8 := (hS.o.grown hg (fun e => hS.n2 (.inl e))).f0
  have hu1 : Gb n₀ w1 (.slice xa 64 c) zs := Gb.kept HU.out hg (by
    cases hv : (Value.slice xa 64 c).ownBlock with
    | none => exact .inl rfl
    | some q => exact .inr fun e => (HFr.out q hv).2.1 (.inl e.symm))
  have hu1 : Gb n₀ (w1.setCell ⟨ob, 0, none⟩ (.slice x3 (cur ++ [zs]).length k3)) (.slice xa 64 c) zs := Gb.other hu1 (a := ⟨ob, 0, none⟩) (fun e => (HFr.out ob e).2.2 rfl) _
  have e9 : (.int .i64 ((cur.length : Nat) : Int) : Value) = .int .i64 ((pn : Nat) : Int) := by rw [← HPn.out]
  rw [e9]
  clear hg hP3 hs3 hb3 hS HS HU HW o0 o1 p0 p1 HFr e9
  obtain ⟨qs, hqs⟩ : ∃ qs, cur ++ [zs] = qs := ⟨_, rfl⟩
  rw [hqs] at hN hu1 ⊢
  have HQs : Hid (cur ++ [zs] = qs) := hqs
  clear hqs
  go_upto_region 3 with (fail)
  clear c8 f8
  generalize V3 = V2 at hN
  generalize x3 = x2 at hN hu1 ⊢
  generalize k3 = k2 at hN hu1 ⊢
  generalize w1.setCell ⟨ob, 0, none⟩ (.slice x2 qs.length k2) = wq at hN hu1 ⊢
  refine wp_region_held_drew (S := fun _ => True) (by kernel_rfl) trivial (fun hHeld => ?_)
  have hS := hN.below (Below.refl wq.heap.size wq).drew
  have hu0 := hu1.below (Below.refl wq.heap.size wq).drew
  clear hN hu1
  generalize wq.drew = D at hHeld hS hu0 ⊢
  refine tkH (i := 0) (v := ?v48) rfl (Or.inl ⟨by kernel_rfl, ?h48⟩) hHeld ?_
  case h48 => intro u hSw; skip; go_simp; try with_reducible rfl
  try simp only [Act.put, tdy]
  refine tkH (i := 1) (v := ?v49) rfl (Or.inl ⟨by kernel_rfl, ?h49⟩) hHeld ?_
  case h49 => intro u hSw; skip; go_simp; try with_reducible rfl
  try simp only [Act.put, tdy]
  refine tkH (i := 2) (v := ?v50) rfl (Or.inl ⟨by kernel_rfl, ?h50⟩) hHeld ?_
  case h50 => intro u hSw; skip; go_simp; try with_reducible rfl
  try simp only [Act.put, tdy]
  refine tkH (i := 3) (v := ?v51) rfl (Or.inl ⟨by kernel_rfl, ?h51⟩) hHeld ?_
  case h51 => intro u hSw; skip; go_simp; try with_reducible rfl
  try simp only [Act.put, tdy]
  refine tkH (i := 5) (v := ?v52) rfl (Or.inl ⟨by kernel_rfl, ?h52⟩) hHeld ?_
  case h52 => intro u hSw; skip; go_simp; try with_reducible rfl
  try simp only [Act.put, tdy]
  refine tkH (i := 6) (v := ?v53) rfl (Or.inl ⟨by kernel_rfl, ?h53⟩) hHeld ?_
  case h53 => intro u hSw; skip; go_simp; try with_reducible rfl
  try simp only [Act.put, tdy]
  refine wpAnyH_ready (rs := [4, 7]) (by kernel_rfl) (by simp) ?_
  refine AllReadyH.cons rfl (fun K hK => ?_) (AllReadyH.cons rfl (fun K hK => ?_) AllReadyH.nil)
  ·
    have c4 := hS.o.c1
    go_simp
    go_wp2_with fail
    refine hK.out _ _ trivial (fun hHeld => ?_)
    clear hK K c4
    try simp only [Act.put, tdy]
    refine wpAnyH_ready (rs := [7]) (by kernel_rfl) (by simp) ?_
    refine AllReadyH.cons rfl (fun K hK => ?_) AllReadyH.nil
    have hsD := hS.sz
    have hAf := hS.a
    have hol := hS.o.lt
    have hsl := hS.ls
    go_simp
    go_wp2_with (go_at_call 87; refine (clone_gen xa zs 64 c _ HZ.out (by omega) hu0.rd HX.out).mono ?_; rintro e w6 ⟨u, rfl, g6, hu⟩; obtain ⟨au, cu, hu0'⟩ := hu.form; rw [HZ.out] at hu0'; subst hu0')
    refine hK.out _ _ (trivial) (fun hHeld => ?_)
    clear hK K
    have hfr : ∀ g, (Value.slice au 64 cu).ownBlock = some g → ¬ blkP (.slice x1 es.length k1) V1 g ∧ ¬ blkP (.slice x2 qs.length k2) V2 g ∧ g ≠ ob := fun g e => by
      have h1 := (Gb.lt hu g e).1
      exact ⟨fun hh => by have := (hAf.e.lt hh).2; omega, fun hh => by have := (hAf.p.lt hh).2; omega, fun hh => by omega⟩
    have hfs : ∀ g, (Value.slice au 64 cu).ownBlock = some g → ¬ sb g := fun g e hq => by
      have h1 := (Gb.lt hu g e).1
      have h2 := hsl g hq
      omega
    have hu : Gb n₀ w6 (.slice au 64 cu) zs := hu.base hsD
    have hS := hS.below g6
    have hu0 := hu0.below g6
    clear g6 hsD hAf hol
    try simp only [Act.put, tdy]
    refine tkH (i := 8) (v := ?v54) rfl (Or.inl ⟨by kernel_rfl, ?h54⟩) hHeld ?_
    case h54 => intro u hSw; skip; go_simp; try with_reducible rfl
    try simp only [Act.put, tdy]
    refine wpAnyH_ready (rs := [9]) (by kernel_rfl) (by simp) ?_
    refine AllReadyH.cons rfl (fun K hK => ?_) AllReadyH.nil
    have gL : Below w6.heap.size w6 (w6.alloc (.cells #[.int .i64 (pn : Nat), .slice au 64 cu] 133)) := (Below.refl _ w6).alloc (Nat.le_refl _) _
    have hcu : (w6.alloc (.cells #[.int .i64 (pn : Nat), .slice au 64 cu] 133)).cell? ⟨w6.heap.size, 0, none⟩ = some (.int .i64 (pn : Nat)) := by simp [go_sem]
    have hcv : (w6.alloc (.cells #[.int .i64 (pn : Nat), .slice au 64 cu] 133)).cell? ⟨w6.heap.size, 1, none⟩ = some (.slice au 64 cu) := by simp [go_sem]
    go_simp
    go_wp2_with fail
    refine hK.out _ _ trivial (fun hHeld => ?_)
    clear hK K
    have hu := hu.below gL
    have hu0 := hu0.below gL
    have hS := hS.below gL
    generalize w6.heap.size = nb at hcu hcv gL ⊢
    generalize hW7 : w6.alloc (.cells #[.int .i64 (pn : Nat), .slice au 64 cu] 133) = w7 at hS hu hcu hcv hHeld gL ⊢
    clear gL hW7
    try simp only [Act.put, tdy]
    refine wpAnyH_ready (rs := [10]) (by kernel_rfl) (by simp) ?_
    refine AllReadyH.cons rfl (fun K hK => ?_) AllReadyH.nil
    have hlow : ∀ q, (Value.slice x1 es.length k1).ownBlock = some q → n₀ ≤ q := fun q e => (hS.a.e.row.lt q e).1
    rw [if_pos (by kernel_rfl)]
    refine wp_append_ed _ _ _ rfl n₀ _ es.length (edC es V1) nb (pn : Nat) (.slice au 64 cu) rfl rfl hS.a.e.row hcu hcv rfl (by omega) hS.sz ?_
    intro v' w8 hown' hgrow hob
    refine hK.out _ _ trivial (fun hHeld => ?_)
    clear hK K
    obtain ⟨x3, k3, hv3⟩ : ∃ x3 k3, v' = .slice x3 (es.length + 1) k3 := by
      rcases hown'.2 with ⟨_, h0⟩ | ⟨g3, cap3, cur3, e3, _⟩
      · omega
      · exact ⟨_, _, e3⟩
    subst hv3
    have hN := hS.edit (p := (pn : Nat)) (zs := zs) hu hfr hfs hown' hgrow hob
    have c8 := (hS.o.grown hgrow (fun e => hS.n1 (.inl e))).c1
    have f8 := (hS.o.grown hgrow (fun e => hS.n1 (.inl e))).f1
    have _gS : Below n₀ w8 (w8.setCell ⟨ob, 1, none⟩ (.slice x3 (es.length + 1) k3)) := Below.grown (Below.refl _ _) (grownOut w8 ob 1 _) (Nat.le_trans hS.sz hgrow.size) (fun q e => by cases e; exact hS.l)
    clear _gS hown' hgrow hob hS hu hcu hcv hlow hfr
    generalize es.length + 1 = nl at hN c8 f8 ⊢
    try simp only [Act.put, tdy]
    refine tkH (i := 11) (v := ?v55) rfl (Or.inl ⟨by kernel_rfl, ?h55⟩) hHeld ?_
    case h55 => intro u hSw; skip; go_simp; try with_reducible rfl
    try simp only [Act.put, tdy]
    refine tkH (i := 12) (v := ?v56) rfl (Or.inl ⟨by kernel_rfl, ?h56⟩) hHeld ?_
    case h56 => intro u hSw; skip; go_simp; try with_reducible rfl
    try simp only [Act.put, tdy]
    refine wpAnyH_ready (rs := [13]) (by kernel_rfl) (by simp) ?_
    refine AllReadyH.cons rfl (fun K hK => ?_) AllReadyH.nil
    go_simp
    refine hK.out _ _ trivial (fun hHeld => ?_)
    clear hK K c8 f8
    try simp only [Act.put, tdy]
    refine wpAnyH_done (by kernel_rfl) ?_ _
    have HF : Hid (R3X sb B n₀ X ob (es ++ [((pn : Int), zs)]) qs (w8.setCell ⟨ob, 1, none⟩ (.slice x3 nl k3))) := ⟨_, _, _, _, _, _, hN⟩
    clear hN hHeld
    go_wp2_with fail
    go_end0
    exact ⟨rfl, by rw [HQs.out]; exact HF.out⟩
  ·
    have hsD := hS.sz
    have hAf := hS.a
    have hol := hS.o.lt
    have hsl := hS.ls
    go_simp
    go_wp2_with (go_at_call 87; refine (clone_gen xa zs 64 c _ HZ.out (by omega) hu0.rd HX.out).mono ?_; rintro e w6 ⟨u, rfl, g6, hu⟩; obtain ⟨au, cu, hu0'⟩ := hu.form; rw [HZ.out] at hu0'; subst hu0')
    refine hK.out _ _ (trivial) (fun hHeld => ?_)
    clear hK K
    have hfr : ∀ g, (Value.slice au 64 cu).ownBlock = some g → ¬ blkP (.slice x1 es.length k1) V1 g ∧ ¬ blkP (.slice x2 qs.length k2) V2 g ∧ g ≠ ob := fun g e => by
      have h1 := (Gb.lt hu g e).1
      exact ⟨fun hh => by have := (hAf.e.lt hh).2; omega, fun hh => by have := (hAf.p.lt hh).2; omega, fun hh => by omega⟩
    have hfs : ∀ g, (Value.slice au 64 cu).ownBlock = some g → ¬ sb g := fun g e hq => by
      have h1 := (Gb.lt hu g e).1
      have h2 := hsl g hq
      omega
    have hu : Gb n₀ w6 (.slice au 64 cu) zs := hu.base hsD
    have hS := hS.below g6
    have hu0 := hu0.below g6
    clear g6 hsD hAf hol
    try simp only [Act.put, tdy]
    refine tkH (i := 8) (v := ?v57) rfl (Or.inl ⟨by kernel_rfl, ?h57⟩) hHeld ?_
    case h57 => intro u hSw; skip; go_simp; try with_reducible rfl
    try simp only [Act.put, tdy]
    refine wpAnyH_ready (rs := [4, 9]) (by kernel_rfl) (by simp) ?_
    refine AllReadyH.cons rfl (fun K hK => ?_) (AllReadyH.cons rfl (fun K hK => ?_) AllReadyH.nil)
    ·
      have c4 := hS.o.c1
      go_simp
      go_wp2_with fail
      refine hK.out _ _ trivial (fun hHeld => ?_)
      clear hK K c4
      try simp only [Act.put, tdy]
      refine wpAnyH_ready (rs := [9]) (by kernel_rfl) (by simp) ?_
      refine AllReadyH.cons rfl (fun K hK => ?_) AllReadyH.nil
      have gL : Below w6.heap.size w6 (w6.alloc (.cells #[.int .i64 (pn : Nat), .slice au 64 cu] 133)) := (Below.refl _ w6).alloc (Nat.le_refl _) _
      have hcu : (w6.alloc (.cells #[.int .i64 (pn : Nat), .slice au 64 cu] 133)).cell? ⟨w6.heap.size, 0, none⟩ = some (.int .i64 (pn : Nat)) := by simp [go_sem]
      have hcv : (w6.alloc (.cells #[.int .i64 (pn : Nat), .slice au 64 cu] 133)).cell? ⟨w6.heap.size, 1, none⟩ = some (.slice au 64 cu) := by simp [go_sem]
      go_simp
      go_wp2_with fail
      refine hK.out _ _ trivial (fun hHeld => ?_)
      clear hK K
      have hu := hu.below gL
      have hu0 := hu0.below gL
      have hS := hS.below gL
      generalize w6.heap.size = nb at hcu hcv gL ⊢
      generalize hW7 : w6.alloc (.cells #[.int .i64 (pn : Nat), .slice au 64 cu] 133) = w7 at hS hu hcu hcv hHeld gL ⊢
      clear gL hW7
      try simp only [Act.put, tdy]
      refine wpAnyH_ready (rs := [10]) (by kernel_rfl) (by simp) ?_
      refine AllReadyH.cons rfl (fun K hK => ?_) AllReadyH.nil
      have hlow : ∀ q, (Value.slice x1 es.length k1).ownBlock = some q → n₀ ≤ q := fun q e => (hS.a.e.row.lt q e).1
      rw [if_pos (by kernel_rfl)]
      refine wp_append_ed _ _ _ rfl n₀ _ es.length (edC es V1) nb (pn : Nat) (.slice au 64 cu) rfl rfl hS.a.e.row hcu hcv rfl (by omega) hS.sz ?_
      intro v' w8 hown' hgrow hob
      refine hK.out _ _ trivial (fun hHeld => ?_)
      clear hK K
      obtain ⟨x3, k3, hv3⟩ : ∃ x3 k3, v' = .slice x3 (es.length + 1) k3 := by
        rcases hown'.2 with ⟨_, h0⟩ | ⟨g3, cap3, cur3, e3, _⟩
        · omega
        · exact ⟨_, _, e3⟩
      subst hv3
      have hN := hS.edit (p := (pn : Nat)) (zs := zs) hu hfr hfs hown' hgrow hob
      have c8 := (hS.o.grown hgrow (fun e => hS.n1 (.inl e))).c1
      have f8 := (hS.o.grown hgrow (fun e => hS.n1 (.inl e))).f1
      have _gS : Below n₀ w8 (w8.setCell ⟨ob, 1, none⟩ (.slice x3 (es.length + 1) k3)) := Below.grown (Below.refl _ _) (grownOut w8 ob 1 _) (Nat.le_trans hS.sz hgrow.size) (fun q e => by cases e; exact hS.l)
      clear _gS hown' hgrow hob hS hu hcu hcv hlow hfr
      generalize es.length + 1 = nl at hN c8 f8 ⊢
      try simp only [Act.put, tdy]
      refine tkH (i := 11) (v := ?v58) rfl (Or.inl ⟨by kernel_rfl, ?h58⟩) hHeld ?_
      case h58 => intro u hSw; skip; go_simp; try with_reducible rfl
      try simp only [Act.put, tdy]
      refine tkH (i := 12) (v := ?v59) rfl (Or.inl ⟨by kernel_rfl, ?h59⟩) hHeld ?_
      case h59 => intro u hSw; skip; go_simp; try with_reducible rfl
      try simp only [Act.put, tdy]
      refine wpAnyH_ready (rs := [13]) (by kernel_rfl) (by simp) ?_
      refine AllReadyH.cons rfl (fun K hK => ?_) AllReadyH.nil
      go_simp
      refine hK.out _ _ trivial (fun hHeld => ?_)
      clear hK K c8 f8
      try simp only [Act.put, tdy]
      refine wpAnyH_done (by kernel_rfl) ?_ _
      have HF : Hid (R3X sb B n₀ X ob (es ++ [((pn : Int), zs)]) qs (w8.setCell ⟨ob, 1, none⟩ (.slice x3 nl k3))) := ⟨_, _, _, _, _, _, hN⟩
      clear hN hHeld
      go_wp2_with fail
      go_end0
      exact ⟨rfl, by rw [HQs.out]; exact HF.out⟩
    ·
      have gL : Below w6.heap.size w6 (w6.alloc (.cells #[.int .i64 (pn : Nat), .slice au 64 cu] 133)) := (Below.refl _ w6).alloc (Nat.le_refl _) _
      have hcu : (w6.alloc (.cells #[.int .i64 (pn : Nat), .slice au 64 cu] 133)).cell? ⟨w6.heap.size, 0, none⟩ = some (.int .i64 (pn : Nat)) := by simp [go_sem]
      have hcv : (w6.alloc (.cells #[.int .i64 (pn : Nat), .slice au 64 cu] 133)).cell? ⟨w6.heap.size, 1, none⟩ = some (.slice au 64 cu) := by simp [go_sem]
      go_simp
      go_wp2_with fail
      refine hK.out _ _ trivial (fun hHeld => ?_)
      clear hK K
      have hu := hu.below gL
      have hu0 := hu0.below gL
      have hS := hS.below gL
      generalize w6.heap.size = nb at hcu hcv gL ⊢
      generalize hW7 : w6.alloc (.cells #[.int .i64 (pn : Nat), .slice au 64 cu] 133) = w7 at hS hu hcu hcv hHeld gL ⊢
      clear gL hW7
      try simp only [Act.put, tdy]
      refine wpAnyH_ready (rs := [4]) (by kernel_rfl) (by simp) ?_
      refine AllReadyH.cons rfl (fun K hK => ?_) AllReadyH.nil
      have c4 := hS.o.c1
      go_simp
      go_wp2_with fail
      refine hK.out _ _ trivial (fun hHeld => ?_)
      clear hK K c4
      try simp only [Act.put, tdy]
      refine wpAnyH_ready (rs := [10]) (by kernel_rfl) (by simp) ?_
      refine AllReadyH.cons rfl (fun K hK => ?_) AllReadyH.nil
      have hlow : ∀ q, (Value.slice x1 es.length k1).ownBlock = some q → n₀ ≤ q := fun q e => (hS.a.e.row.lt q e).1
      rw [if_pos (by kernel_rfl)]
      refine wp_append_ed _ _ _ rfl n₀ _ es.length (edC es V1) nb (pn : Nat) (.slice au 64 cu) rfl rfl hS.a.e.row hcu hcv rfl (by omega) hS.sz ?_
      intro v' w8 hown' hgrow hob
      refine hK.out _ _ trivial (fun hHeld => ?_)
      clear hK K
      obtain ⟨x3, k3, hv3⟩ : ∃ x3 k3, v' = .slice x3 (es.length + 1) k3 := by
        rcases hown'.2 with ⟨_, h0⟩ | ⟨g3, cap3, cur3, e3, _⟩
        · omega
        · exact ⟨_, _, e3⟩
      subst hv3
      have hN := hS.edit (p := (pn : Nat)) (zs := zs) hu hfr hfs hown' hgrow hob
      have c8 := (hS.o.grown hgrow (fun e => hS.n1 (.inl e))).c1
      have f8 := (hS.o.grown hgrow (fun e => hS.n1 (.inl e))).f1
      have _gS : Below n₀ w8 (w8.setCell ⟨ob, 1, none⟩ (.slice x3 (es.length + 1) k3)) := Below.grown (Below.refl _ _) (grownOut w8 ob 1 _) (Nat.le_trans hS.sz hgrow.size) (fun q e => by cases e; exact hS.l)
      clear _gS hown' hgrow hob hS hu hcu hcv hlow hfr
      generalize es.length + 1 = nl at hN c8 f8 ⊢
      try simp only [Act.put, tdy]
      refine tkH (i := 11) (v := ?v60) rfl (Or.inl ⟨by kernel_rfl, ?h60⟩) hHeld ?_
      case h60 => intro u hSw; skip; go_simp; try with_reducible rfl
      try simp only [Act.put, tdy]
      refine tkH (i := 12) (v := ?v61) rfl (Or.inl ⟨by kernel_rfl, ?h61⟩) hHeld ?_
      case h61 => intro u hSw; skip; go_simp; try with_reducible rfl
      try simp only [Act.put, tdy]
      refine wpAnyH_ready (rs := [13]) (by kernel_rfl) (by simp) ?_
      refine AllReadyH.cons rfl (fun K hK => ?_) AllReadyH.nil
      go_simp
      refine hK.out _ _ trivial (fun hHeld => ?_)
      clear hK K c8 f8
      try simp only [Act.put, tdy]
      refine wpAnyH_done (by kernel_rfl) ?_ _
      have HF : Hid (R3X sb B n₀ X ob (es ++ [((pn : Int), zs)]) qs (w8.setCell ⟨ob, 1, none⟩ (.slice x3 nl k3))) := ⟨_, _, _, _, _, _, hN⟩
      clear hN hHeld
      go_wp2_with fail
      go_end0
      exact ⟨rfl, by rw [HQs.out]; exact HF.out⟩

set_option maxRecDepth 20000 in
set_option maxHeartbeats 4000000 in
theorem l7Turn_same (sb : Nat → Prop) (B : Nat → Option Obj) (n₀ : Nat) (X : World) (ob : Nat) (es : List (Int × List Int)) (cur : List (List Int)) (x1 : Option Addr) (k1 : Nat) (V1 : List Value) (x2 : Option Addr) (k2 : Nat) (V2 : List Value) (pn : Nat) (xa : Option Addr) (c : Nat) (zs : List Int) (w : World) (hS : HpX sb B n₀ X ob es cur x1 k1 V1 x2 k2 V2 w) (hp : cur[pn]? = some zs) (h64 : zs.length = 64) (hrd : Reads w xa zs) :
    Calls Tryz.prog 165 #[.pointer (some ⟨ob, 0, none⟩), .int .i64 pn, .slice xa 64 c] w fun e w' => TxPost sb B n₀ X ob es cur e w' := by
  have hpl : pn < cur.length := (List.getElem?_eq_some_iff.1 hp).1
  obtain ⟨gp, hx2⟩ : ∃ gp, x2 = some ⟨gp, 0, none⟩ := by
    rcases hS.a.p.row.2 with ⟨_, h0⟩ | ⟨gp, cap, cu, e, _⟩
    · omega
    · cases e; exact ⟨gp, rfl⟩
  subst hx2
  obtain ⟨y0, hy0⟩ : ∃ y, V2[pn]? = some y := ⟨_, List.getElem?_eq_getElem (by rw [hS.a.p.len]; omega)⟩
  have hyb := hS.a.p.by' pn y0 zs hy0 hp
  obtain ⟨ay, cy, fy, hye, hby, _⟩ := Gb.one hyb
  have c8 := hS.a.p.row.cellAt pn (by omega)
  rw [hy0, hye, h64] at c8
  have q1 : ∀ n, (convert 22 9 (.slice ay 64 cy)).run Tryz.prog (w.drewN n) = .ok (.string (strOfNums zs)) (w.drewN n) := fun n => convert_any _ ay 64 cy zs h64 hby.reads
  have q2 : ∀ n, (convert 22 9 (.slice xa 64 c)).run Tryz.prog (w.drewN n) = .ok (.string (strOfNums zs)) (w.drewN n) := fun n => convert_any _ xa 64 c zs h64 hrd
  have q10 := convert_any w ay 64 cy zs h64 hby.reads
  have q20 := convert_any w xa 64 c zs h64 hrd
  generalize strOfNums zs = t at q1 q2 q10 q20
  obtain ⟨o0, o1, _, _⟩ := hS.o
  have hpi : (pn : Int) < (cur.length : Int) := by omega
  have dn : (((pn : Nat) : Int) == (cur.length : Int)) = false := by
    have : ¬ ((pn : Int) = (cur.length : Int)) := by omega
    simpa using this
  have HS : Hid _ := hS
  clear hS hyb hby hye hy0 hrd
  go_enter Tryz.func165, Tryz.ntmps165
  go_upto_region 2 with (fail)
  go_quiet (fail)
  go_wp2_with fail
  go_end0
  exact ⟨rfl, _, _, _, _, _, _, HS.out.below ⟨rfl, rfl, rfl, Nat.le_refl _, fun _ _ => rfl⟩⟩

/-- The edits behind one more page that is turned. -/
def tnE (es : List (Int × List Int)) (cur : List (List Int)) (p : Nat) (zs : List Int) : List (Int × List Int) := if cur[p]? = some zs then es else es ++ [((p : Int), zs)]
theorem tn_len (es : List (Int × List Int)) (cur : List (List Int)) (p : Nat) (zs : List Int) : (tnE es cur p zs).length ≤ es.length + 1 := by unfold tnE; split <;> simp
theorem wpL_same {cur : List (List Int)} {p : Nat} {zs : List Int} (h : cur[p]? = some zs) : wpL cur p zs = cur := by
  have hl := (List.getElem?_eq_some_iff.1 h).1
  unfold wpL
  rw [if_neg (by omega)]
  have := (List.getElem?_eq_some_iff.1 h).2
  rw [← this]
  exact List.set_getElem_self hl

theorem l7Turn_any (sb : Nat → Prop) (B : Nat → Option Obj) (n₀ : Nat) (X : World) (ob : Nat) (es : List (Int × List Int)) (cur : List (List Int)) (x1 : Option Addr) (k1 : Nat) (V1 : List Value) (x2 : Option Addr) (k2 : Nat) (V2 : List Value) (pn : Nat) (xa : Option Addr) (c : Nat) (zs : List Int) (w : World) (hS : HpX sb B n₀ X ob es cur x1 k1 V1 x2 k2 V2 w) (hp : pn ≤ cur.length) (ho : ∀ ys ∈ cur, ∀ z ∈ ys, 0 ≤ z ∧ z ≤ 255) (hz : ∀ z ∈ zs, 0 ≤ z ∧ z ≤ 255) (h64 : zs.length = 64) (hc12 : cur.length ≤ 12) (hel : es.length ≤ 1000) (hu : Rb w (.slice xa 64 c) zs) (hfr : ∀ g, (Value.slice xa 64 c).ownBlock = some g → ¬ blkP (.slice x1 es.length k1) V1 g ∧ ¬ blkP (.slice x2 cur.length k2) V2 g ∧ g ≠ ob) :
    Calls Tryz.prog 165 #[.pointer (some ⟨ob, 0, none⟩), .int .i64 pn, .slice xa 64 c] w fun e w' => TxPost sb B n₀ X ob (tnE es cur pn zs) (wpL cur pn zs) e w' := by
  by_cases hn : pn = cur.length
  · have h1 : cur[pn]? ≠ some zs := fun h => by have := (List.getElem?_eq_some_iff.1 h).1; omega
    unfold tnE
    rw [if_neg h1, show wpL cur pn zs = cur ++ [zs] by rw [hn]; exact wpL_new cur zs]
    exact l7Turn_new sb B n₀ X ob es cur x1 k1 V1 x2 k2 V2 xa c pn zs w hn hS hz h64 hc12 hel hu hfr
  · have hlt : pn < cur.length := by omega
    obtain ⟨old, hold⟩ : ∃ old, cur[pn]? = some old := ⟨_, List.getElem?_eq_getElem hlt⟩
    by_cases he : old = zs
    · subst he
      unfold tnE
      rw [if_pos hold, wpL_same hold]
      exact l7Turn_same sb B n₀ X ob es cur x1 k1 V1 x2 k2 V2 pn xa c old w hS hold h64 hu.rd
    · unfold tnE
      rw [if_neg (by rw [hold]; simpa using he), wpL_old zs hlt]
      exact l7Turn_oldR sb B n₀ X ob es cur x1 k1 V1 x2 k2 V2 pn xa c zs old w hS hold (ho old (List.mem_of_getElem? hold)) hz he h64 hc12 hel hu hfr

theorem putEdit_any (sb : Nat → Prop) (B : Nat → Option Obj) (n₀ : Nat) (X : World) (ob : Nat) (es : List (Int × List Int)) (cur : List (List Int)) (x1 : Option Addr) (k1 : Nat) (V1 : List Value) (x2 : Option Addr) (k2 : Nat) (V2 : List Value) (pn : Nat) (xa : Option Addr) (c : Nat) (zs : List Int) (w : World) (hS : HpX sb B n₀ X ob es cur x1 k1 V1 x2 k2 V2 w) (hp : pn ≤ cur.length) (ho : ∀ ys ∈ cur, ∀ z ∈ ys, 0 ≤ z ∧ z ≤ 255) (hz : ∀ z ∈ zs, 0 ≤ z ∧ z ≤ 255) (h64 : zs.length = 64) (hc12 : cur.length ≤ 12) (hel : es.length ≤ 1000) (hu : Gb n₀ w (.slice xa 64 c) zs) (hfr : ∀ g, (Value.slice xa 64 c).ownBlock = some g → ¬ blkP (.slice x1 es.length k1) V1 g ∧ ¬ blkP (.slice x2 cur.length k2) V2 g ∧ g ≠ ob) (hfs : ∀ g, (Value.slice xa 64 c).ownBlock = some g → ¬ sb g) :
    Calls Tryz.prog 86 #[.pointer (some ⟨ob, 0, none⟩), .int .i64 pn, .slice xa 64 c] w fun e w' => TxPost sb B n₀ X ob (tnE es cur pn zs) (wpL cur pn zs) e w' := by
  by_cases hn : pn = cur.length
  · have h1 : cur[pn]? ≠ some zs := fun h => by have := (List.getElem?_eq_some_iff.1 h).1; omega
    unfold tnE
    rw [if_neg h1, show wpL cur pn zs = cur ++ [zs] by rw [hn]; exact wpL_new cur zs]
    exact putEdit_new sb B n₀ X ob es cur x1 k1 V1 x2 k2 V2 xa c pn zs w hn hS h64 hc12 hel hu hfr hfs
  · have hlt : pn < cur.length := by omega
    obtain ⟨old, hold⟩ : ∃ old, cur[pn]? = some old := ⟨_, List.getElem?_eq_getElem hlt⟩
    by_cases he : old = zs
    · subst he
      unfold tnE
      rw [if_pos hold, wpL_same hold]
      exact putEdit_same sb B n₀ X ob es cur x1 k1 V1 x2 k2 V2 pn xa c old w hS hold hz h64 hu.rd
    · unfold tnE
      rw [if_neg (by rw [hold]; simpa using he), wpL_old zs hlt]
      exact (putEdit_oldX sb B n₀ X ob es cur x1 k1 V1 x2 k2 V2 pn xa c zs old w hS hold (ho old (List.mem_of_getElem? hold)) hz he h64 hc12 hel hu hfr hfs (fun _ => True) (fun _ _ => trivial) (fun _ _ => trivial) trivial).mono fun e w' ⟨h1, ⟨y1, m1, W1, W2, h2⟩, _⟩ => ⟨h1, y1, m1, W1, x2, k2, W2, h2⟩

end Go.Proofs.YtnfolgoloaeanaaGreat

