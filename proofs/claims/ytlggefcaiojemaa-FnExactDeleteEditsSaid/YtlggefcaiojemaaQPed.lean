/-
  The program's putEdit, where a page that is there is turned.
-/
import Derived.Test.YtlggefcaiojemaaQLtu
import Derived.Test.YtlggefcaiojemaaQPea

namespace Go.Proofs.Ytlggefcaiojemaa
open Go.RowKit
set_option linter.unusedVariables false

/-- The same pages' row, and nothing turned but what is in D. -/
def R4 (n₀ : Nat) (X : World) (ob : Nat) (es : List (Int × List Int)) (qs : List (List Int)) (x2 : Option Addr) (k2 : Nat) (V : World) : Prop := ∃ x1 k1 V1 V2, HpS n₀ X ob es qs x1 k1 V1 x2 k2 V2 V
def PuPost (n₀ : Nat) (X : World) (ob : Nat) (es : List (Int × List Int)) (qs : List (List Int)) (x2 : Option Addr) (k2 : Nat) (D : Nat → Prop) (w : World) (e : Ending) (V : World) : Prop := e = .returned (.tuple #[]) ∧ R4 n₀ X ob es qs x2 k2 V ∧ TurnS D w V
theorem TurnS.ofGrown {S : Nat → Prop} {w w' : World} {row : Option Nat} (h : w.grownBy w' row) (hs : ∀ g, row = some g → S g) : TurnS S w w' := ⟨h.os, h.tape, h.output, h.size, fun k hk hn => h.block k hk (fun e => hn (hs k e.symm))⟩

set_option maxRecDepth 20000 in
set_option maxHeartbeats 4000000 in
theorem putEdit_old (n₀ : Nat) (X : World) (ob : Nat) (es : List (Int × List Int)) (cur : List (List Int)) (x1 : Option Addr) (k1 : Nat) (V1 : List Value) (x2 : Option Addr) (k2 : Nat) (V2 : List Value) (pn : Nat) (xa : Option Addr) (c : Nat) (zs old : List Int) (w : World) (hS : HpS n₀ X ob es cur x1 k1 V1 x2 k2 V2 w) (hp : cur[pn]? = some old) (ho : ∀ z ∈ old, 0 ≤ z ∧ z ≤ 255) (hz : ∀ z ∈ zs, 0 ≤ z ∧ z ≤ 255) (hne : old ≠ zs) (h64 : zs.length = 64) (hc12 : cur.length ≤ 12) (hel : es.length ≤ 1000) (hu : Gb n₀ w (.slice xa 64 c) zs) (hfr : ∀ g, (Value.slice xa 64 c).ownBlock = some g → ¬ blkP (.slice x1 es.length k1) V1 g ∧ ¬ blkP (.slice x2 cur.length k2) V2 g ∧ g ≠ ob) (D : Nat → Prop) (hD1 : ∀ g, blkP (.slice x1 es.length k1) V1 g → D g) (hD2 : ∀ g, blkP (.slice x2 cur.length k2) V2 g → D g) (hD3 : D ob) :
    Calls Try.prog 41 #[.pointer (some ⟨ob, 0, none⟩), .int .i64 pn, .slice xa 64 c] w fun e w' => PuPost n₀ X ob (es ++ [((pn : Int), zs)]) (cur.set pn zs) x2 k2 D w e w' := by
  have hpl : pn < cur.length := (List.getElem?_eq_some_iff.1 hp).1
  obtain ⟨gp, hx2⟩ : ∃ gp, x2 = some ⟨gp, 0, none⟩ := by
    rcases hS.a.p.row.2 with ⟨_, h0⟩ | ⟨gp, cap, cu, e, _⟩
    · omega
    · cases e; exact ⟨gp, rfl⟩
  subst hx2
  obtain ⟨y0, hy0⟩ : ∃ y, V2[pn]? = some y := ⟨_, List.getElem?_eq_getElem (by rw [hS.a.p.len]; omega)⟩
  have hyb := hS.a.p.by' pn y0 old hy0 hp
  obtain ⟨ay, cy, fy, hye, hby, _⟩ := Gb.one hyb
  have c8 := hS.a.p.row.cellAt pn (by omega)
  rw [hy0, hye] at c8
  have f8 : w.frozen? ⟨gp, pn, none⟩ = false := hS.a.p.row.frozenAt _
  have dn : (((pn : Nat) : Int) == (cur.length : Int)) = false := by
    have : ¬ ((pn : Int) = (cur.length : Int)) := by omega
    simpa using this
  have hpi : (pn : Int) < (cur.length : Int) := by omega
  have hbe := bytesEqual_any ay xa old.length 64 cy c old zs w rfl h64 hby.reads hu.rd ho hz
  rw [show decide (old = zs) = false by simpa using hne] at hbe
  have hwp := withPage_set gp pn cur.length k2 _ (.slice xa 64 c) w hpl c8 f8 ⟨_, _, _, rfl⟩
  have hN := hS.setPage (i := pn) hpl hu hfr
  have hu1 : Gb n₀ (w.setCell ⟨gp, pn, none⟩ (.slice xa 64 c)) (.slice xa 64 c) zs := Gb.other hu (a := ⟨gp, pn, none⟩) (fun e => (hfr gp e).2.1 (.inl rfl)) _
  have hT0 : TurnS D w (w.setCell ⟨gp, pn, none⟩ (.slice xa 64 c)) := (TurnS.refl D w).setCell (hD2 gp (.inl rfl)) _
  have hql : (cur.set pn zs).length = cur.length := List.length_set
  obtain ⟨o0, o1, p0, p1⟩ := hS.o
  obtain ⟨qs, hqs⟩ : ∃ qs, cur.set pn zs = qs := ⟨_, rfl⟩
  rw [hqs] at hN hql
  have HQs : Hid (cur.set pn zs = qs) := hqs
  have HFr : Hid _ := hfr
  have HZ : Hid (zs.length = 64) := h64
  clear hqs hyb hby hye hy0 hS hu hp hfr h64 hne ho hz
  go_enter Try.func41, Try.ntmps41
  go_upto_region 2 with (go_at_call 58; refine hbe.mono ?_; rintro e w1 ⟨rfl, hw1⟩; subst w1)
  go_wp2_with (go_at_call 59; refine hwp.mono ?_)
  rintro e w1 ⟨rfl, hw1⟩
  rw [← hw1] at hN hu1 hT0
  clear hw1 hwp hbe dn hpi c8 f8 o0 o1 p0 p1
  have hN2 := hN.pages (V' := w1) (row := none) (x3 := some ⟨gp, 0, none⟩) (k3 := k2) ⟨rfl, rfl, rfl, Nat.le_refl _, fun _ _ _ => rfl⟩ (fun g e => by cases e) hN.a.p hN.a.s2 (fun g hg => .inl hg)
  have hu2 : Gb n₀ (w1.setCell ⟨ob, 0, none⟩ (.slice (some ⟨gp, 0, none⟩) qs.length k2)) (.slice xa 64 c) zs := Gb.other hu1 (a := ⟨ob, 0, none⟩) (fun e => (HFr.out ob e).2.2 rfl) _
  have hT := hT0.setCell (p := ⟨ob, 0, none⟩) hD3 (.slice (some ⟨gp, 0, none⟩) cur.length k2)
  clear hT0
  obtain ⟨o0, o1, p0, p1⟩ := hN.o
  rw [hql] at o0 hN2 hu2
  go_upto_region 3 with (fail)
  have HX : Hid (xa = none → c = 0) := fun e => by
    subst e
    obtain ⟨tt, _, hh⟩ := hu1
    rcases hh.2 with ⟨e1, _⟩ | ⟨_, _, _, e1, _⟩
    · injection e1
    · cases e1
  clear hN hu1 o0 o1 p0 p1
  have hN := hN2
  have hu1 := hu2
  clear hN2 hu2
  generalize V2.set pn (.slice xa 64 c) = V3 at hN
  generalize w1.setCell ⟨ob, 0, none⟩ (.slice (some ⟨gp, 0, none⟩) cur.length k2) = wq at hN hu1 hT ⊢
  refine wp_region_held_drew (S := fun _ => True) (by kernel_rfl) trivial (fun hHeld => ?_)
  have hS := hN.below (Below.refl wq.heap.size wq).drew
  have hT := hT.trans (TurnS.ofBelow (S := D) (Below.refl wq.heap.size wq).drew)
  have hu0 := hu1.below (Below.refl wq.heap.size wq).drew
  clear hN hu1
  generalize wq.drew = wD at hHeld hS hu0 hT ⊢
  generalize V3 = V2 at hS
  refine wpAnyH_take (i := 0) (v := ?v69) rfl (by kernel_rfl) (by kernel_rfl) (by kernel_rfl) (fun _ _ _ h => h) (Or.inl ⟨by kernel_rfl, ?h69⟩) hHeld ?_
  case h69 => intro u hSw; skip; go_simp; try with_reducible rfl
  try simp only [List.getElem_toArray]
  try simp only [List.getElem_cons_succ]
  try simp only [List.getElem_cons_zero]
  try simp only [Act.put]
  try simp only [List.setIfInBounds_toArray]
  try simp only [List.set]
  refine wpAnyH_take (i := 1) (v := ?v70) rfl (by kernel_rfl) (by kernel_rfl) (by kernel_rfl) (fun _ _ _ h => h) (Or.inl ⟨by kernel_rfl, ?h70⟩) hHeld ?_
  case h70 => intro u hSw; skip; go_simp; try with_reducible rfl
  try simp only [List.getElem_toArray]
  try simp only [List.getElem_cons_succ]
  try simp only [List.getElem_cons_zero]
  try simp only [Act.put]
  try simp only [List.setIfInBounds_toArray]
  try simp only [List.set]
  refine wpAnyH_take (i := 2) (v := ?v71) rfl (by kernel_rfl) (by kernel_rfl) (by kernel_rfl) (fun _ _ _ h => h) (Or.inl ⟨by kernel_rfl, ?h71⟩) hHeld ?_
  case h71 => intro u hSw; skip; go_simp; try with_reducible rfl
  try simp only [List.getElem_toArray]
  try simp only [List.getElem_cons_succ]
  try simp only [List.getElem_cons_zero]
  try simp only [Act.put]
  try simp only [List.setIfInBounds_toArray]
  try simp only [List.set]
  refine wpAnyH_take (i := 3) (v := ?v72) rfl (by kernel_rfl) (by kernel_rfl) (by kernel_rfl) (fun _ _ _ h => h) (Or.inl ⟨by kernel_rfl, ?h72⟩) hHeld ?_
  case h72 => intro u hSw; skip; go_simp; try with_reducible rfl
  try simp only [List.getElem_toArray]
  try simp only [List.getElem_cons_succ]
  try simp only [List.getElem_cons_zero]
  try simp only [Act.put]
  try simp only [List.setIfInBounds_toArray]
  try simp only [List.set]
  refine wpAnyH_take (i := 5) (v := ?v73) rfl (by kernel_rfl) (by kernel_rfl) (by kernel_rfl) (fun _ _ _ h => h) (Or.inl ⟨by kernel_rfl, ?h73⟩) hHeld ?_
  case h73 => intro u hSw; skip; go_simp; try with_reducible rfl
  try simp only [List.getElem_toArray]
  try simp only [List.getElem_cons_succ]
  try simp only [List.getElem_cons_zero]
  try simp only [Act.put]
  try simp only [List.setIfInBounds_toArray]
  try simp only [List.set]
  refine wpAnyH_take (i := 6) (v := ?v74) rfl (by kernel_rfl) (by kernel_rfl) (by kernel_rfl) (fun _ _ _ h => h) (Or.inl ⟨by kernel_rfl, ?h74⟩) hHeld ?_
  case h74 => intro u hSw; skip; go_simp; try with_reducible rfl
  try simp only [List.getElem_toArray]
  try simp only [List.getElem_cons_succ]
  try simp only [List.getElem_cons_zero]
  try simp only [Act.put]
  try simp only [List.setIfInBounds_toArray]
  try simp only [List.set]
  refine wpAnyH_ready (rs := [4, 7]) (by kernel_rfl) (by simp) ?_
  refine AllReadyH.cons rfl (fun K hK => ?_) (AllReadyH.cons rfl (fun K hK => ?_) AllReadyH.nil)
  ·
    have c4 := hS.o.c1
    go_simp
    go_wp2_with fail
    refine hK.out _ _ trivial (fun hHeld => ?_)
    clear hK K c4
    try simp only [Act.put]
    try simp only [List.setIfInBounds_toArray]
    try simp only [List.set]
    refine wpAnyH_ready (rs := [7]) (by kernel_rfl) (by simp) ?_
    refine AllReadyH.cons rfl (fun K hK => ?_) AllReadyH.nil
    have hsD := hS.sz
    have hAf := hS.a
    have hol := hS.o.lt
    go_simp
    go_wp2_with (go_at_call 42; refine (clone_gen xa zs 64 c _ HZ.out (by omega) hu0.rd HX.out).mono ?_; rintro e w6 ⟨u, rfl, g6, hu⟩; obtain ⟨au, cu, hu0'⟩ := hu.form; rw [HZ.out] at hu0'; subst hu0')
    refine hK.out _ _ (trivial) (fun hHeld => ?_)
    clear hK K
    have hfr : ∀ g, (Value.slice au 64 cu).ownBlock = some g → ¬ blkP (.slice x1 es.length k1) V1 g ∧ ¬ blkP (.slice (some ⟨gp, 0, none⟩) qs.length k2) V2 g ∧ g ≠ ob := fun g e => by
      have h1 := (Gb.lt hu g e).1
      exact ⟨fun hh => by have := (hAf.e.lt hh).2; omega, fun hh => by have := (hAf.p.lt hh).2; omega, fun hh => by omega⟩
    have hu : Gb n₀ w6 (.slice au 64 cu) zs := hu.base hsD
    have hS := hS.below g6
    have hT := hT.trans (TurnS.ofBelow (S := D) g6)
    have hu0 := hu0.below g6
    clear g6 hsD hAf hol
    try simp only [Act.put]
    try simp only [List.setIfInBounds_toArray]
    try simp only [List.set]
    refine wpAnyH_take (i := 8) (v := ?v75) rfl (by kernel_rfl) (by kernel_rfl) (by kernel_rfl) (fun _ _ _ h => h) (Or.inl ⟨by kernel_rfl, ?h75⟩) hHeld ?_
    case h75 => intro u hSw; skip; go_simp; try with_reducible rfl
    try simp only [List.getElem_toArray]
    try simp only [List.getElem_cons_succ]
    try simp only [List.getElem_cons_zero]
    try simp only [Act.put]
    try simp only [List.setIfInBounds_toArray]
    try simp only [List.set]
    refine wpAnyH_ready (rs := [9]) (by kernel_rfl) (by simp) ?_
    refine AllReadyH.cons rfl (fun K hK => ?_) AllReadyH.nil
    have gL : Below w6.heap.size w6 (w6.alloc (.cells #[.int .i64 (pn : Nat), .slice au 64 cu] 71)) := (Below.refl _ w6).alloc (Nat.le_refl _) _
    have hcu : (w6.alloc (.cells #[.int .i64 (pn : Nat), .slice au 64 cu] 71)).cell? ⟨w6.heap.size, 0, none⟩ = some (.int .i64 (pn : Nat)) := by simp [go_sem]
    have hcv : (w6.alloc (.cells #[.int .i64 (pn : Nat), .slice au 64 cu] 71)).cell? ⟨w6.heap.size, 1, none⟩ = some (.slice au 64 cu) := by simp [go_sem]
    go_simp
    go_wp2_with fail
    refine hK.out _ _ trivial (fun hHeld => ?_)
    clear hK K
    have hu := hu.below gL
    have hu0 := hu0.below gL
    have hS := hS.below gL
    have hT := hT.trans (TurnS.ofBelow (S := D) gL)
    generalize w6.heap.size = nb at hcu hcv gL ⊢
    generalize hW7 : w6.alloc (.cells #[.int .i64 (pn : Nat), .slice au 64 cu] 71) = w7 at hS hT hu hcu hcv hHeld gL ⊢
    clear gL hW7
    try simp only [Act.put]
    try simp only [List.setIfInBounds_toArray]
    try simp only [List.set]
    refine wpAnyH_ready (rs := [10]) (by kernel_rfl) (by simp) ?_
    refine AllReadyH.cons rfl (fun K hK => ?_) AllReadyH.nil
    have hlow : ∀ q, (Value.slice x1 es.length k1).ownBlock = some q → n₀ ≤ q := fun q e => (hS.a.e.row.lt q e).1
    rw [if_pos (by kernel_rfl)]
    refine wp_append_ed _ _ _ rfl n₀ _ es.length (edC es V1) nb (pn : Nat) (.slice au 64 cu) rfl rfl hS.a.e.row hcu hcv rfl (by omega) hS.sz ?_
    intro v' w8 hown' hgrow hob
    refine hK.out _ _ trivial (fun hHeld => ?_)
    clear hK K
    obtain ⟨x3, k3, hv3⟩ : ∃ x3 k3, v' = .slice x3 (es.length + 1) k3 := by
      rcases hown'.2 with ⟨_, h0⟩ | ⟨g3, cap3, cur3, e3, _⟩
      · omega
      · exact ⟨_, _, e3⟩
    subst hv3
    have hN := hS.edit (p := (pn : Nat)) (zs := zs) hu hfr hown' hgrow hob
    have hT := (hT.trans (TurnS.ofGrown (S := D) hgrow (fun q e => hD1 q (.inl e)))).setCell (p := ⟨ob, 1, none⟩) hD3 (.slice x3 (es.length + 1) k3)
    have c8 := (hS.o.grown hgrow (fun e => hS.n1 (.inl e))).c1
    have f8 := (hS.o.grown hgrow (fun e => hS.n1 (.inl e))).f1
    have _gS : Below n₀ w8 (w8.setCell ⟨ob, 1, none⟩ (.slice x3 (es.length + 1) k3)) := Below.grown (Below.refl _ _) (grownOut w8 ob 1 _) (Nat.le_trans hS.sz hgrow.size) (fun q e => by cases e; exact hS.l)
    clear _gS hown' hgrow hob hS hu hcu hcv hlow hfr
    generalize es.length + 1 = nl at hN c8 f8 hT ⊢
    try simp only [Act.put]
    try simp only [List.setIfInBounds_toArray]
    try simp only [List.set]
    refine wpAnyH_take (i := 11) (v := ?v76) rfl (by kernel_rfl) (by kernel_rfl) (by kernel_rfl) (fun _ _ _ h => h) (Or.inl ⟨by kernel_rfl, ?h76⟩) hHeld ?_
    case h76 => intro u hSw; skip; go_simp; try with_reducible rfl
    try simp only [List.getElem_toArray]
    try simp only [List.getElem_cons_succ]
    try simp only [List.getElem_cons_zero]
    try simp only [Act.put]
    try simp only [List.setIfInBounds_toArray]
    try simp only [List.set]
    refine wpAnyH_take (i := 12) (v := ?v77) rfl (by kernel_rfl) (by kernel_rfl) (by kernel_rfl) (fun _ _ _ h => h) (Or.inl ⟨by kernel_rfl, ?h77⟩) hHeld ?_
    case h77 => intro u hSw; skip; go_simp; try with_reducible rfl
    try simp only [List.getElem_toArray]
    try simp only [List.getElem_cons_succ]
    try simp only [List.getElem_cons_zero]
    try simp only [Act.put]
    try simp only [List.setIfInBounds_toArray]
    try simp only [List.set]
    refine wpAnyH_ready (rs := [13]) (by kernel_rfl) (by simp) ?_
    refine AllReadyH.cons rfl (fun K hK => ?_) AllReadyH.nil
    go_simp
    refine hK.out _ _ trivial (fun hHeld => ?_)
    clear hK K c8 f8
    try simp only [Act.put]
    try simp only [List.setIfInBounds_toArray]
    try simp only [List.set]
    refine wpAnyH_done (by kernel_rfl) ?_ _
    have HF : Hid (R4 n₀ X ob (es ++ [((pn : Int), zs)]) qs (some ⟨gp, 0, none⟩) k2 (w8.setCell ⟨ob, 1, none⟩ (.slice x3 nl k3)) ∧ TurnS D w (w8.setCell ⟨ob, 1, none⟩ (.slice x3 nl k3))) := ⟨⟨_, _, _, _, hN⟩, hT⟩
    clear hN hHeld hT
    go_wp2_with fail
    go_end0
    exact ⟨rfl, by rw [HQs.out]; exact HF.out.1, HF.out.2⟩
  ·
    have hsD := hS.sz
    have hAf := hS.a
    have hol := hS.o.lt
    go_simp
    go_wp2_with (go_at_call 42; refine (clone_gen xa zs 64 c _ HZ.out (by omega) hu0.rd HX.out).mono ?_; rintro e w6 ⟨u, rfl, g6, hu⟩; obtain ⟨au, cu, hu0'⟩ := hu.form; rw [HZ.out] at hu0'; subst hu0')
    refine hK.out _ _ (trivial) (fun hHeld => ?_)
    clear hK K
    have hfr : ∀ g, (Value.slice au 64 cu).ownBlock = some g → ¬ blkP (.slice x1 es.length k1) V1 g ∧ ¬ blkP (.slice (some ⟨gp, 0, none⟩) qs.length k2) V2 g ∧ g ≠ ob := fun g e => by
      have h1 := (Gb.lt hu g e).1
      exact ⟨fun hh => by have := (hAf.e.lt hh).2; omega, fun hh => by have := (hAf.p.lt hh).2; omega, fun hh => by omega⟩
    have hu : Gb n₀ w6 (.slice au 64 cu) zs := hu.base hsD
    have hS := hS.below g6
    have hT := hT.trans (TurnS.ofBelow (S := D) g6)
    have hu0 := hu0.below g6
    clear g6 hsD hAf hol
    try simp only [Act.put]
    try simp only [List.setIfInBounds_toArray]
    try simp only [List.set]
    refine wpAnyH_take (i := 8) (v := ?v78) rfl (by kernel_rfl) (by kernel_rfl) (by kernel_rfl) (fun _ _ _ h => h) (Or.inl ⟨by kernel_rfl, ?h78⟩) hHeld ?_
    case h78 => intro u hSw; skip; go_simp; try with_reducible rfl
    try simp only [List.getElem_toArray]
    try simp only [List.getElem_cons_succ]
    try simp only [List.getElem_cons_zero]
    try simp only [Act.put]
    try simp only [List.setIfInBounds_toArray]
    try simp only [List.set]
    refine wpAnyH_ready (rs := [4, 9]) (by kernel_rfl) (by simp) ?_
    refine AllReadyH.cons rfl (fun K hK => ?_) (AllReadyH.cons rfl (fun K hK => ?_) AllReadyH.nil)
    ·
      have c4 := hS.o.c1
      go_simp
      go_wp2_with fail
      refine hK.out _ _ trivial (fun hHeld => ?_)
      clear hK K c4
      try simp only [Act.put]
      try simp only [List.setIfInBounds_toArray]
      try simp only [List.set]
      refine wpAnyH_ready (rs := [9]) (by kernel_rfl) (by simp) ?_
      refine AllReadyH.cons rfl (fun K hK => ?_) AllReadyH.nil
      have gL : Below w6.heap.size w6 (w6.alloc (.cells #[.int .i64 (pn : Nat), .slice au 64 cu] 71)) := (Below.refl _ w6).alloc (Nat.le_refl _) _
      have hcu : (w6.alloc (.cells #[.int .i64 (pn : Nat), .slice au 64 cu] 71)).cell? ⟨w6.heap.size, 0, none⟩ = some (.int .i64 (pn : Nat)) := by simp [go_sem]
      have hcv : (w6.alloc (.cells #[.int .i64 (pn : Nat), .slice au 64 cu] 71)).cell? ⟨w6.heap.size, 1, none⟩ = some (.slice au 64 cu) := by simp [go_sem]
      go_simp
      go_wp2_with fail
      refine hK.out _ _ trivial (fun hHeld => ?_)
      clear hK K
      have hu := hu.below gL
      have hu0 := hu0.below gL
      have hS := hS.below gL
      have hT := hT.trans (TurnS.ofBelow (S := D) gL)
      generalize w6.heap.size = nb at hcu hcv gL ⊢
      generalize hW7 : w6.alloc (.cells #[.int .i64 (pn : Nat), .slice au 64 cu] 71) = w7 at hS hT hu hcu hcv hHeld gL ⊢
      clear gL hW7
      try simp only [Act.put]
      try simp only [List.setIfInBounds_toArray]
      try simp only [List.set]
      refine wpAnyH_ready (rs := [10]) (by kernel_rfl) (by simp) ?_
      refine AllReadyH.cons rfl (fun K hK => ?_) AllReadyH.nil
      have hlow : ∀ q, (Value.slice x1 es.length k1).ownBlock = some q → n₀ ≤ q := fun q e => (hS.a.e.row.lt q e).1
      rw [if_pos (by kernel_rfl)]
      refine wp_append_ed _ _ _ rfl n₀ _ es.length (edC es V1) nb (pn : Nat) (.slice au 64 cu) rfl rfl hS.a.e.row hcu hcv rfl (by omega) hS.sz ?_
      intro v' w8 hown' hgrow hob
      refine hK.out _ _ trivial (fun hHeld => ?_)
      clear hK K
      obtain ⟨x3, k3, hv3⟩ : ∃ x3 k3, v' = .slice x3 (es.length + 1) k3 := by
        rcases hown'.2 with ⟨_, h0⟩ | ⟨g3, cap3, cur3, e3, _⟩
        · omega
        · exact ⟨_, _, e3⟩
      subst hv3
      have hN := hS.edit (p := (pn : Nat)) (zs := zs) hu hfr hown' hgrow hob
      have hT := (hT.trans (TurnS.ofGrown (S := D) hgrow (fun q e => hD1 q (.inl e)))).setCell (p := ⟨ob, 1, none⟩) hD3 (.slice x3 (es.length + 1) k3)
      have c8 := (hS.o.grown hgrow (fun e => hS.n1 (.inl e))).c1
      have f8 := (hS.o.grown hgrow (fun e => hS.n1 (.inl e))).f1
      have _gS : Below n₀ w8 (w8.setCell ⟨ob, 1, none⟩ (.slice x3 (es.length + 1) k3)) := Below.grown (Below.refl _ _) (grownOut w8 ob 1 _) (Nat.le_trans hS.sz hgrow.size) (fun q e => by cases e; exact hS.l)
      clear _gS hown' hgrow hob hS hu hcu hcv hlow hfr
      generalize es.length + 1 = nl at hN c8 f8 hT ⊢
      try simp only [Act.put]
      try simp only [List.setIfInBounds_toArray]
      try simp only [List.set]
      refine wpAnyH_take (i := 11) (v := ?v79) rfl (by kernel_rfl) (by kernel_rfl) (by kernel_rfl) (fun _ _ _ h => h) (Or.inl ⟨by kernel_rfl, ?h79⟩) hHeld ?_
      case h79 => intro u hSw; skip; go_simp; try with_reducible rfl
      try simp only [List.getElem_toArray]
      try simp only [List.getElem_cons_succ]
      try simp only [List.getElem_cons_zero]
      try simp only [Act.put]
      try simp only [List.setIfInBounds_toArray]
      try simp only [List.set]
      refine wpAnyH_take (i := 12) (v := ?v80) rfl (by kernel_rfl) (by kernel_rfl) (by kernel_rfl) (fun _ _ _ h => h) (Or.inl ⟨by kernel_rfl, ?h80⟩) hHeld ?_
      case h80 => intro u hSw; skip; go_simp; try with_reducible rfl
      try simp only [List.getElem_toArray]
      try simp only [List.getElem_cons_succ]
      try simp only [List.getElem_cons_zero]
      try simp only [Act.put]
      try simp only [List.setIfInBounds_toArray]
      try simp only [List.set]
      refine wpAnyH_ready (rs := [13]) (by kernel_rfl) (by simp) ?_
      refine AllReadyH.cons rfl (fun K hK => ?_) AllReadyH.nil
      go_simp
      refine hK.out _ _ trivial (fun hHeld => ?_)
      clear hK K c8 f8
      try simp only [Act.put]
      try simp only [List.setIfInBounds_toArray]
      try simp only [List.set]
      refine wpAnyH_done (by kernel_rfl) ?_ _
      have HF : Hid (R4 n₀ X ob (es ++ [((pn : Int), zs)]) qs (some ⟨gp, 0, none⟩) k2 (w8.setCell ⟨ob, 1, none⟩ (.slice x3 nl k3)) ∧ TurnS D w (w8.setCell ⟨ob, 1, none⟩ (.slice x3 nl k3))) := ⟨⟨_, _, _, _, hN⟩, hT⟩
      clear hN hHeld hT
      go_wp2_with fail
      go_end0
      exact ⟨rfl, by rw [HQs.out]; exact HF.out.1, HF.out.2⟩
    ·
      have gL : Below w6.heap.size w6 (w6.alloc (.cells #[.int .i64 (pn : Nat), .slice au 64 cu] 71)) := (Below.refl _ w6).alloc (Nat.le_refl _) _
      have hcu : (w6.alloc (.cells #[.int .i64 (pn : Nat), .slice au 64 cu] 71)).cell? ⟨w6.heap.size, 0, none⟩ = some (.int .i64 (pn : Nat)) := by simp [go_sem]
      have hcv : (w6.alloc (.cells #[.int .i64 (pn : Nat), .slice au 64 cu] 71)).cell? ⟨w6.heap.size, 1, none⟩ = some (.slice au 64 cu) := by simp [go_sem]
      go_simp
      go_wp2_with fail
      refine hK.out _ _ trivial (fun hHeld => ?_)
      clear hK K
      have hu := hu.below gL
      have hu0 := hu0.below gL
      have hS := hS.below gL
      have hT := hT.trans (TurnS.ofBelow (S := D) gL)
      generalize w6.heap.size = nb at hcu hcv gL ⊢
      generalize hW7 : w6.alloc (.cells #[.int .i64 (pn : Nat), .slice au 64 cu] 71) = w7 at hS hT hu hcu hcv hHeld gL ⊢
      clear gL hW7
      try simp only [Act.put]
      try simp only [List.setIfInBounds_toArray]
      try simp only [List.set]
      refine wpAnyH_ready (rs := [4]) (by kernel_rfl) (by simp) ?_
      refine AllReadyH.cons rfl (fun K hK => ?_) AllReadyH.nil
      have c4 := hS.o.c1
      go_simp
      go_wp2_with fail
      refine hK.out _ _ trivial (fun hHeld => ?_)
      clear hK K c4
      try simp only [Act.put]
      try simp only [List.setIfInBounds_toArray]
      try simp only [List.set]
      refine wpAnyH_ready (rs := [10]) (by kernel_rfl) (by simp) ?_
      refine AllReadyH.cons rfl (fun K hK => ?_) AllReadyH.nil
      have hlow : ∀ q, (Value.slice x1 es.length k1).ownBlock = some q → n₀ ≤ q := fun q e => (hS.a.e.row.lt q e).1
      rw [if_pos (by kernel_rfl)]
      refine wp_append_ed _ _ _ rfl n₀ _ es.length (edC es V1) nb (pn : Nat) (.slice au 64 cu) rfl rfl hS.a.e.row hcu hcv rfl (by omega) hS.sz ?_
      intro v' w8 hown' hgrow hob
      refine hK.out _ _ trivial (fun hHeld => ?_)
      clear hK K
      obtain ⟨x3, k3, hv3⟩ : ∃ x3 k3, v' = .slice x3 (es.length + 1) k3 := by
        rcases hown'.2 with ⟨_, h0⟩ | ⟨g3, cap3, cur3, e3, _⟩
        · omega
        · exact ⟨_, _, e3⟩
      subst hv3
      have hN := hS.edit (p := (pn : Nat)) (zs := zs) hu hfr hown' hgrow hob
      have hT := (hT.trans (TurnS.ofGrown (S := D) hgrow (fun q e => hD1 q (.inl e)))).setCell (p := ⟨ob, 1, none⟩) hD3 (.slice x3 (es.length + 1) k3)
      have c8 := (hS.o.grown hgrow (fun e => hS.n1 (.inl e))).c1
      have f8 := (hS.o.grown hgrow (fun e => hS.n1 (.inl e))).f1
      have _gS : Below n₀ w8 (w8.setCell ⟨ob, 1, none⟩ (.slice x3 (es.length + 1) k3)) := Below.grown (Below.refl _ _) (grownOut w8 ob 1 _) (Nat.le_trans hS.sz hgrow.size) (fun q e => by cases e; exact hS.l)
      clear _gS hown' hgrow hob hS hu hcu hcv hlow hfr
      generalize es.length + 1 = nl at hN c8 f8 hT ⊢
      try simp only [Act.put]
      try simp only [List.setIfInBounds_toArray]
      try simp only [List.set]
      refine wpAnyH_take (i := 11) (v := ?v81) rfl (by kernel_rfl) (by kernel_rfl) (by kernel_rfl) (fun _ _ _ h => h) (Or.inl ⟨by kernel_rfl, ?h81⟩) hHeld ?_
      case h81 => intro u hSw; skip; go_simp; try with_reducible rfl
      try simp only [List.getElem_toArray]
      try simp only [List.getElem_cons_succ]
      try simp only [List.getElem_cons_zero]
      try simp only [Act.put]
      try simp only [List.setIfInBounds_toArray]
      try simp only [List.set]
      refine wpAnyH_take (i := 12) (v := ?v82) rfl (by kernel_rfl) (by kernel_rfl) (by kernel_rfl) (fun _ _ _ h => h) (Or.inl ⟨by kernel_rfl, ?h82⟩) hHeld ?_
      case h82 => intro u hSw; skip; go_simp; try with_reducible rfl
      try simp only [List.getElem_toArray]
      try simp only [List.getElem_cons_succ]
      try simp only [List.getElem_cons_zero]
      try simp only [Act.put]
      try simp only [List.setIfInBounds_toArray]
      try simp only [List.set]
      refine wpAnyH_ready (rs := [13]) (by kernel_rfl) (by simp) ?_
      refine AllReadyH.cons rfl (fun K hK => ?_) AllReadyH.nil
      go_simp
      refine hK.out _ _ trivial (fun hHeld => ?_)
      clear hK K c8 f8
      try simp only [Act.put]
      try simp only [List.setIfInBounds_toArray]
      try simp only [List.set]
      refine wpAnyH_done (by kernel_rfl) ?_ _
      have HF : Hid (R4 n₀ X ob (es ++ [((pn : Int), zs)]) qs (some ⟨gp, 0, none⟩) k2 (w8.setCell ⟨ob, 1, none⟩ (.slice x3 nl k3)) ∧ TurnS D w (w8.setCell ⟨ob, 1, none⟩ (.slice x3 nl k3))) := ⟨⟨_, _, _, _, hN⟩, hT⟩
      clear hN hHeld hT
      go_wp2_with fail
      go_end0
      exact ⟨rfl, by rw [HQs.out]; exact HF.out.1, HF.out.2⟩

end Go.Proofs.Ytlggefcaiojemaa
