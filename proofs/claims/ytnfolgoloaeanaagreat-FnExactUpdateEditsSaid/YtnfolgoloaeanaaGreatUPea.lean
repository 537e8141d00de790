/-
  The program's pageAt at a page that is there; withPage, where a page is turned.
-/
import Derived.Test.YtnfolgoloaeanaaGreatUMae
import Derived.Test.YtnfolgoloaeanaaGreatULtu

namespace Go.Proofs.YtnfolgoloaeanaaGreat
open Go.RowKit
set_option linter.unusedVariables false

set_option maxHeartbeats 1000000 in
theorem pageAt_old (gp pn n k : Nat) (y : Value) (w : World) (hp : pn < n) (hc : w.cell? ⟨gp, pn, none⟩ = some y) :
    Calls Tryz.prog 103 #[.slice (some ⟨gp, 0, none⟩) n k, .int .i64 pn] w fun e w' => e = .returned (.tuple #[y, .bool true]) ∧ w' = w := by
  have hpi : (pn : Int) < (n : Int) := by omega
  go_enter Tryz.func103, Tryz.ntmps103
  go_wp2_with fail
  refine bodyPost_ret (v := .tuple #[y, .bool true]) (by simp [results, Tryz.results103, go_sem]) rfl ?_
  exact ⟨rfl, rfl⟩

set_option maxHeartbeats 1000000 in
theorem withPage_set (gp pn n k : Nat) (y u : Value) (w : World) (hp : pn < n) (hc : w.cell? ⟨gp, pn, none⟩ = some y) (hf : w.frozen? ⟨gp, pn, none⟩ = false) (hu : ∃ a l c, u = .slice a l c) :
    Calls Tryz.prog 141 #[.slice (some ⟨gp, 0, none⟩) n k, .int .i64 pn, u] w fun e w' => e = .returned (.slice (some ⟨gp, 0, none⟩) n k) ∧ w' = w.setCell ⟨gp, pn, none⟩ u := by
  obtain ⟨a, l, c, rfl⟩ := hu
  have hpi : (pn : Int) < (n : Int) := by omega
  have dn : (((pn : Nat) : Int) == (n : Int)) = false := by
    have : ¬ ((pn : Int) = (n : Int)) := by omega
    simpa using this
  go_enter Tryz.func141, Tryz.ntmps141
  go_wp2_with fail
  go_ret
  exact ⟨rfl, rfl⟩


/-- The same pages' row, and nothing turned but what is in D. -/
def R4 (n₀ : Nat) (X : World) (ob : Nat) (es : List (Int × List Int)) (qs : List (List Int)) (x2 : Option Addr) (k2 : Nat) (V : World) : Prop := ∃ x1 k1 V1 V2, HpS n₀ X ob es qs x1 k1 V1 x2 k2 V2 V
def PuPost (n₀ : Nat) (X : World) (ob : Nat) (es : List (Int × List Int)) (qs : List (List Int)) (x2 : Option Addr) (k2 : Nat) (D : Nat → Prop) (w : World) (e : Ending) (V : World) : Prop := e = .returned (.tuple #[]) ∧ R4 n₀ X ob es qs x2 k2 V ∧ TurnS D w V
theorem TurnS.ofGrown {S : Nat → Prop} {w w' : World} {row : Option Nat} (h : w.grownBy w' row) (hs : ∀ g, row = some g → S g) : TurnS S w w' := ⟨h.os, h.tape, h.output, h.size, fun k hk hn => h.block k hk (fun e => hn (hs k e.symm))⟩

set_option maxRecDepth 20000 in
set_option maxHeartbeats 4000000 in
theorem putEdit_old (n₀ : Nat) (X : World) (ob : Nat) (es : List (Int × List Int)) (cur : List (List Int)) (x1 : Option Addr) (k1 : Nat) (V1 : List Value) (x2 : Option Addr) (k2 : Nat) (V2 : List Value) (pn : Nat) (xa : Option Addr) (c : Nat) (zs old : List Int) (w : World) (hS : HpS n₀ X ob es cur x1 k1 V1 x2 k2 V2 w) (hp : cur[pn]? = some old) (ho : ∀ z ∈ old, 0 ≤ z ∧ z ≤ 255) (hz : ∀ z ∈ zs, 0 ≤ z ∧ z ≤ 255) (hne : old ≠ zs) (h64 : zs.length = 64) (hc12 : cur.length ≤ 12) (hel : es.length ≤ 1000) (hu : Gb n₀ w (.slice xa 64 c) zs) (hfr : ∀ g, (Value.slice xa 64 c).ownBlock = some g → ¬ blkP (.slice x1 es.length k1) V1 g ∧ ¬ blkP (.slice x2 cur.length k2) V2 g ∧ g ≠ ob) (D : Nat → Prop) (hD1 : ∀ g, blkP (.slice x1 es.length k1) V1 g → D g) (hD2 : ∀ g, blkP (.slice x2 cur.length k2) V2 g → D g) (hD3 : D ob) :
    Calls Tryz.prog 86 #[.pointer (some ⟨ob, 0, none⟩), .int .i64 pn, .slice xa 64 c] w fun e w' => PuPost n₀ X ob (es ++ [((pn : Int), zs)]) (cur.set pn zs) x2 k2 D w e w' := by
  have hpl : pn < cur.length := (List.getElem?_eq_some_iff.1 hp).1
  obtain ⟨gp, hx2⟩ : ∃ gp, x2 = some ⟨gp, 0, none⟩ := by
    rcases hS.a.p.row.2 with ⟨_, h0⟩ | ⟨gp, cap, cu, e, _⟩
    · omega
    · cases e; exact ⟨gp, rfl⟩
  subst hx2
  obtain ⟨y0, hy0⟩ : ∃ y, V2[pn]? = some y := ⟨_, List.getElem?_eq_getElem (by rw [hS.a.p.len]; omega)⟩
  have hyb := hS.a.p.by' pn y0 old hy0 hp
  obtain ⟨ay, cy, fy, hye, hby, _⟩ := Gb.one hyb
  have c8 := hS.a.p.row.cellAt pn (by omega)
  rw [hy0, hye] at c8
  have f8 : w.frozen? ⟨gp, pn, none⟩ = false := hS.a.p.row.frozenAt _
  have dn : (((pn : Nat) : Int) == (cur.length : Int)) = false := by
    have : ¬ ((pn : Int) = (cur.length : Int)) := by omega
    simpa using this
  have hpi : (pn : Int) < (cur.length : Int) := by omega
  have hbe := bytesEqual_any ay xa old.length 64 cy c old zs w rfl h64 hby.reads hu.rd ho hz
  rw [show decide (old = zs) = false by simpa using hne] at hbe
  have hwp := withPage_set gp pn cur.length k2 _ (.slice xa 64 c) w hpl c8 f8 ⟨_, _, _, rfl⟩
  have hN := hS.setPage (i := pn) hpl hu hfr
  have hu1 : Gb n₀ (w.setCell ⟨gp, pn, none⟩ (.slice xa 64 c)) (.slice xa 64 c) zs := Gb.other hu (a := ⟨gp, pn, none⟩) (fun e => (hfr gp e).2.1 (.inl rfl)) _
  have hT0 : TurnS D w (w.setCell ⟨gp, pn, none⟩ (.slice xa 64 c)) := (TurnS.refl D w).setCell (hD2 gp (.inl rfl)) _
  have hql : (cur.set pn zs).length = cur.length := List.length_set
  obtain ⟨o0, o1, p0, p1⟩ := hS.o
  obtain ⟨qs, hqs⟩ : ∃ qs, cur.set pn zs = qs := ⟨_, rfl⟩
  rw [hqs] at hN hql
  have HQs : Hid (cur.set pn zs = qs) := hqs
  have HFr : Hid _ := hfr
  have HZ : Hid (zs.length = 64) := h64
  clear hqs hyb hby hye hy0 hS hu hp hfr h64 hne ho hz
  go_enter Tryz.func86, Tryz.ntmps86
  go_upto_region 2 with (go_at_call 140; refine hbe.mono ?_; rintro e w1 ⟨rfl, hw1⟩; subst w1)
  go_wp2_with (go_at_call 141; refine hwp.mono ?_)
  rintro e w1 ⟨rfl, hw1⟩
  rw [← hw1] at hN hu1 hT0
  clear hw1 hwp hbe dn hpi c8 f8 o0 o1 p0 p1
  have hN2 := hN.pages (V' := w1) (row := none) (x3 := some ⟨gp, 0, none⟩) (k3 := k2) ⟨rfl, rfl, rfl, Nat.le_refl _, fun _ _ _ => rfl⟩ (fun g e => by cases e) hN.a.p hN.a.s2 (fun g hg => .inl hg)
  have hu2 : Gb n₀ (w1.setCell ⟨ob, 0, none⟩ (.slice (some ⟨gp, 0, none⟩) qs.length k2)) (.slice xa 64 c) zs := Gb.other hu1 (a := ⟨ob, 0, none⟩) (fun e => (HFr.out ob e).2.2 rfl) _
  have hT := hT0.setCell (p := ⟨ob, 0, none⟩) hD3 (.slice (some ⟨gp, 0, none⟩) cur.length k2)
  clear hT0
  obtain ⟨o0, o1, p0, p1⟩ := hN.o
  rw [hql] at o0 hN2 hu2
  go_upto_region 3 with (fail)
  have HX : Hid (xa = none → c = 0) := fun e => by
    subst e
    obtain ⟨tt, _, hh⟩ := hu1
    rcases hh.2 with ⟨e1, _⟩ | ⟨_, _, _, e1, _⟩
    · injection e1
    · cases e1
  clear hN hu1 o0 o1 p0 p1
  have hN := hN2
  have hu1 := hu2
  clear hN2 hu2
  generalize V2.set pn (.slice xa 64 c) = V3 at hN
  generalize w1.setCell ⟨ob, 0, none⟩ (.slice (some ⟨gp, 0, none⟩) cur.length k2) = wq at hN hu1 hT ⊢
  refine wp_region_held_drew (S := fun _ => True) (by kernel_rfl) trivial (fun hHeld => ?_)
  have hS := hN.below (Below.refl wq.heap.size wq).drew
  have hT := hT.trans (TurnS.ofBelow (S := D) (Below.refl wq.heap.size wq).drew)
  have hu0 := hu1.below (Below.refl wq.heap.size wq).drew
  clear hN hu1
  generalize wq.drew = wD at hHeld hS hu0 hT ⊢
  generalize V3 = V2 at hS
  refine tkH (i := 0) (v := ?v69) rfl (Or.inl ⟨by kernel_rfl, ?h69⟩) hHeld ?_
  case h69 => intro u hSw; skip; go_simp; try with_reducible rfl
  try simp only [Act.put, tdy]
  refine tkH (i := 1) (v := ?v70) rfl (Or.inl ⟨by kernel_rfl, ?h70⟩) hHeld ?_
  case h70 => intro u hSw; skip; go_simp; try with_reducible rfl
  try simp only [Act.put, tdy]
  refine tkH (i := 2) (v := ?v71) rfl (Or.inl ⟨by kernel_rfl, ?h71⟩) hHeld ?_
  case h71 => intro u hSw; skip; go_simp; try with_reducible rfl
  try simp only [Act.put, tdy]
  refine tkH (i := 3) (v := ?v72) rfl (Or.inl ⟨by kernel_rfl, ?h72⟩) hHeld ?_
  case h72 => intro u hSw; skip; go_simp; try with_reducible rfl
  try simp only [Act.put, tdy]
  refine tkH (i := 5) (v := ?v73) rfl (Or.inl ⟨by kernel_rfl, ?h73⟩) hHeld ?_
  case h73 => intro u hSw; skip; go_simp; try with_reducible rfl
  try simp only [Act.put, tdy]
  refine tkH (i := 6) (v := ?v74) rfl (Or.inl ⟨by kernel_rfl, ?h74⟩) hHeld ?_
  case h74 => intro u hSw; skip; go_simp; try with_reducible rfl
  try simp only [Act.put, tdy]
  refine wpAnyH_ready (rs := [4, 7]) (by kernel_rfl) (by simp) ?_
  refine AllReadyH.cons rfl (fun K hK => ?_) (AllReadyH.cons rfl (fun K hK => ?_) AllReadyH.nil)
  ·
    have c4 := hS.o.c1
    go_simp
    go_wp2_with fail
    refine hK.out _ _ trivial (fun hHeld => ?_)
    clear hK K c4
    try simp only [Act.put, tdy]
    refine wpAnyH_ready (rs := [7]) (by kernel_rfl) (by simp) ?_
    refine AllReadyH.cons rfl (fun K hK => ?_) AllReadyH.nil
    have hsD := hS.sz
    have hAf := hS.a
    have hol := hS.o.lt
    go_simp
    go_wp2_with (go_at_call 87; refine (clone_gen xa zs 64 c _ HZ.out (by omega) hu0.rd HX.out).mono ?_; rintro e w6 ⟨u, rfl, g6, hu⟩; obtain ⟨au, cu, hu0'⟩ := hu.form; rw [HZ.out] at hu0'; subst hu0')
    refine hK.out _ _ (trivial) (fun hHeld => ?_)
    clear hK K
    have hfr : ∀ g, (Value.slice au 64 cu).ownBlock = some g → ¬ blkP (.slice x1 es.length k1) V1 g ∧ ¬ blkP (.slice (some ⟨gp, 0, none⟩) qs.length k2) V2 g ∧ g ≠ ob := fun g e => by
      have h1 := (Gb.lt hu g e).1
      exact ⟨fun hh => by have := (hAf.e.lt hh).2; omega, fun hh => by have := (hAf.p.lt hh).2; omega, fun hh => by omega⟩
    have hu : Gb n₀ w6 (.slice au 64 cu) zs := hu.base hsD
    have hS := hS.below g6
    have hT := hT.trans (TurnS.ofBelow (S := D) g6)
    have hu0 := hu0.below g6
    clear g6 hsD hAf hol
    try simp only [Act.put, tdy]
    refine tkH (i := 8) (v := ?v75) rfl (Or.inl ⟨by kernel_rfl, ?h75⟩) hHeld ?_
    case h75 => intro u hSw; skip; go_simp; try with_reducible rfl
    try simp only [Act.put, tdy]
    refine wpAnyH_ready (rs := [9]) (by kernel_rfl) (by simp) ?_
    refine AllReadyH.cons rfl (fun K hK => ?_) AllReadyH.nil
    have gL : Below w6.heap.size w6 (w6.alloc (.cells #[.int .i64 (pn : Nat), .slice au 64 cu] 133)) := (Below.refl _ w6).alloc (Nat.le_refl _) _
    have hcu : (w6.alloc (.cells #[.int .i64 (pn : Nat), .slice au 64 cu] 133)).cell? ⟨w6.heap.size, 0, none⟩ = some (.int .i64 (pn : Nat)) := by simp [go_sem]
    have hcv : (w6.alloc (.cells #[.int .i64 (pn : Nat), .slice au 64 cu] 133)).cell? ⟨w6.heap.size, 1, none⟩ = some (.slice au 64 cu) := by simp [go_sem]
    go_simp
    go_wp2_with fail
    refine hK.out _ _ trivial (fun hHeld => ?_)
    clear hK K
    have hu := hu.below gL
    have hu0 := hu0.below gL
    have hS := hS.below gL
    have hT := hT.trans (TurnS.ofBelow (S := D) gL)
    generalize w6.heap.size = nb at hcu hcv gL ⊢
    generalize hW7 : w6.alloc (.cells #[.int .i64 (pn : Nat), .slice au 64 cu] 133) = w7 at hS hT hu hcu hcv hHeld gL ⊢
    clear gL hW7
    try simp only [Act.put, tdy]
    refine wpAnyH_ready (rs := [10]) (by kernel_rfl) (by simp) ?_
    refine AllReadyH.cons rfl (fun K hK => ?_) AllReadyH.nil
    have hlow : ∀ q, (Value.slice x1 es.length k1).ownBlock = some q → n₀ ≤ q := fun q e => (hS.a.e.row.lt q e).1
    rw [if_pos (by kernel_rfl)]
    refine wp_append_ed _ _ _ rfl n₀ _ es.length (edC es V1) nb (pn : Nat) (.slice au 64 cu) rfl rfl hS.a.e.row hcu hcv rfl (by omega) hS.sz ?_
    intro v' w8 hown' hgrow hob
    refine hK.out _ _ trivial (fun hHeld => ?_)
    clear hK K
    obtain ⟨x3, k3, hv3⟩ : ∃ x3 k3, v' = .slice x3 (es.length + 1) k3 := by
      rcases hown'.2 with ⟨_, h0⟩ | ⟨g3, cap3, cur3, e3, _⟩
      · omega
      · exact ⟨_, _, e3⟩
    subst hv3
    have hN := hS.edit (p := (pn : Nat)) (zs := zs) hu hfr hown' hgrow hob
    have hT := (hT.trans (TurnS.ofGrown (S := D) hgrow (fun q e => hD1 q (.inl e)))).setCell (p := ⟨ob, 1, none⟩) hD3 (.slice x3 (es.length + 1) k3)
    have c8 := (hS.o.grown hgrow (fun e => hS.n1 (.inl e))).c1
    have f8 := (hS.o.grown hgrow (fun e => hS.n1 (.inl e))).f1
    have _gS : Below n₀ w8 (w8.setCell ⟨ob, 1, none⟩ (.slice x3 (es.length + 1) k3)) := Below.grown (Below.refl _ _) (grownOut w8 ob 1 _) (Nat.le_trans hS.sz hgrow.size) (fun q e => by cases e; exact hS.l)
    clear _gS hown' hgrow hob hS hu hcu hcv hlow hfr
    generalize es.length + 1 = nl at hN c8 f8 hT ⊢
    try simp only [Act.put, tdy]
    refine tkH (i := 11) (v := ?v76) rfl (Or.inl ⟨by kernel_rfl, ?h76⟩) hHeld ?_
    case h76 => intro u hSw; skip; go_simp; try with_reducible rfl
    try simp only [Act.put, tdy]
    refine tkH (i := 12) (v := ?v77) rfl (Or.inl ⟨by kernel_rfl, ?h77⟩) hHeld ?_
    case h77 => intro u hSw; skip; go_simp; try with_reducible rfl
    try simp only [Act.put, tdy]
    refine wpAnyH_ready (rs := [13]) (by kernel_rfl) (by simp) ?_
    refine AllReadyH.cons rfl (fun K hK => ?_) AllReadyH.nil
    go_simp
    refine hK.out _ _ trivial (fun hHeld => ?_)
    clear hK K c8 f8
    try simp only [Act.put, tdy]
    refine wpAnyH_done (by kernel_rfl) ?_ _
    have HF : Hid (R4 n₀ X ob (es ++ [((pn : Int), zs)]) qs (some ⟨gp, 0, none⟩) k2 (w8.setCell ⟨ob, 1, none⟩ (.slice x3 nl k3)) ∧ TurnS D w (w8.setCell ⟨ob, 1, none⟩ (.slice x3 nl k3))) := ⟨⟨_, _, _, _, hN⟩, hT⟩
    clear hN hHeld hT
    go_wp2_with fail
    go_end0
    exact ⟨rfl, by rw [HQs.out]; exact HF.out.1, HF.out.2⟩
  ·
    have hsD := hS.sz
    have hAf := hS.a
    have hol := hS.o.lt
    go_simp
    go_wp2_with (go_at_call 87; refine (clone_gen xa zs 64 c _ HZ.out (by omega) hu0.rd HX.out).mono ?_; rintro e w6 ⟨u, rfl, g6, hu⟩; obtain ⟨au, cu, hu0'⟩ := hu.form; rw [HZ.out] at hu0'; subst hu0')
    refine hK.out _ _ (trivial) (fun hHeld => ?_)
    clear hK K
    have hfr : ∀ g, (Value.slice au 64 cu).ownBlock = some g → ¬ blkP (.slice x1 es.length k1) V1 g ∧ ¬ blkP (.slice (some ⟨gp, 0, none⟩) qs.length k2) V2 g ∧ g ≠ ob := fun g e => by
      have h1 := (Gb.lt hu g e).1
      exact ⟨fun hh => by have := (hAf.e.lt hh).2; omega, fun hh => by have := (hAf.p.lt hh).2; omega, fun hh => by omega⟩
    have hu : Gb n₀ w6 (.slice au 64 cu) zs := hu.base hsD
    have hS := hS.below g6
    have hT := hT.trans (TurnS.ofBelow (S := D) g6)
    have hu0 := hu0.below g6
    clear g6 hsD hAf hol
    try simp only [Act.put, tdy]
    refine tkH (i := 8) (v := ?v78) rfl (Or.inl ⟨by kernel_rfl, ?h78⟩) hHeld ?_
    case h78 => intro u hSw; skip; go_simp; try with_reducible rfl
    try simp only [Act.put, tdy]
    refine wpAnyH_ready (rs := [4, 9]) (by kernel_rfl) (by simp) ?_
    refine AllReadyH.cons rfl (fun K hK => ?_) (AllReadyH.cons rfl (fun K hK => ?_) AllReadyH.nil)
    ·
      have c4 := hS.o.c1
      go_simp
      go_wp2_with fail
      refine hK.out _ _ trivial (fun hHeld => ?_)
      clear hK K c4
      try simp only [Act.put, tdy]
      refine wpAnyH_ready (rs := [9]) (by kernel_rfl) (by simp) ?_
      refine AllReadyH.cons rfl (fun K hK => ?_) AllReadyH.nil
      have gL : Below w6.heap.size w6 (w6.alloc (.cells #[.int .i64 (pn : Nat), .slice au 64 cu] 133)) := (Below.refl _ w6).alloc (Nat.le_refl _) _
      have hcu : (w6.alloc (.cells #[.int .i64 (pn : Nat), .slice au 64 cu] 133)).cell? ⟨w6.heap.size, 0, none⟩ = some (.int .i64 (pn : Nat)) := by simp [go_sem]
      have hcv : (w6.alloc (.cells #[.int .i64 (pn : Nat), .slice au 64 cu] 133)).cell? ⟨w6.heap.size, 1, none⟩ = some (.slice au 64 cu) := by simp [go_sem]
      go_simp
      go_wp2_with fail
      refine hK.out _ _ trivial (fun hHeld => ?_)
      clear hK K
      have hu := hu.below gL
      have hu0 := hu0.below gL
      have hS := hS.below gL
      have hT := hT.trans (TurnS.ofBelow (S := D) gL)
      generalize w6.heap.size = nb at hcu hcv gL ⊢
      generalize hW7 : w6.alloc (.cells #[.int .i64 (pn : Nat), .slice au 64 cu] 133) = w7 at hS hT hu hcu hcv hHeld gL ⊢
      clear gL hW7
      try simp only [Act.put, tdy]
      refine wpAnyH_ready (rs := [10]) (by kernel_rfl) (by simp) ?_
      refine AllReadyH.cons rfl (fun K hK => ?_) AllReadyH.nil
      have hlow : ∀ q, (Value.slice x1 es.length k1).ownBlock = some q → n₀ ≤ q := fun q e => (hS.a.e.row.lt q e).1
      rw [if_pos (by kernel_rfl)]
      refine wp_append_ed _ _ _ rfl n₀ _ es.length (edC es V1) nb (pn : Nat) (.slice au 64 cu) rfl rfl hS.a.e.row hcu hcv rfl (by omega) hS.sz ?_
      intro v' w8 hown' hgrow hob
      refine hK.out _ _ trivial (fun hHeld => ?_)
      clear hK K
      obtain ⟨x3, k3, hv3⟩ : ∃ x3 k3, v' = .slice x3 (es.length + 1) k3 := by
        rcases hown'.2 with ⟨_, h0⟩ | ⟨g3, cap3, cur3, e3, _⟩
        · omega
        · exact ⟨_, _, e3⟩
      subst hv3
      have hN := hS.edit (p := (pn : Nat)) (zs := zs) hu hfr hown' hgrow hob
      have hT := (hT.trans (TurnS.ofGrown (S := D) hgrow (fun q e => hD1 q (.inl e)))).setCell (p := ⟨ob, 1, none⟩) hD3 (.slice x3 (es.length + 1) k3)
      have c8 := (hS.o.grown hgrow (fun e => hS.n1 (.inl e))).c1
      have f8 := (hS.o.grown hgrow (fun e => hS.n1 (.inl e))).f1
      have _gS : Below n₀ w8 (w8.setCell ⟨ob, 1, none⟩ (.slice x3 (es.length + 1) k3)) := Below.grown (Below.refl _ _) (grownOut w8 ob 1 _) (Nat.le_trans hS.sz hgrow.size) (fun q e => by cases e; exact hS.l)
      clear _gS hown' hgrow hob hS hu hcu hcv hlow hfr
      generalize es.length + 1 = nl at hN c8 f8 hT ⊢
      try simp only [Act.put, tdy]
      refine tkH (i := 11) (v := ?v79) rfl (Or.inl ⟨by kernel_rfl, ?h79⟩) hHeld ?_
      case h79 => intro u hSw; skip; go_simp; try with_reducible rfl
      try simp only [Act.put, tdy]
      refine tkH (i := 12) (v := ?v80) rfl (Or.inl ⟨by kernel_rfl, ?h80⟩) hHeld ?_
      case h80 => intro u hSw; skip; go_simp; try with_reducible rfl
      try simp only [Act.put, tdy]
      refine wpAnyH_ready (rs := [13]) (by kernel_rfl) (by simp) ?_
      refine AllReadyH.cons rfl (fun K hK => ?_) AllReadyH.nil
      go_simp
      refine hK.out _ _ trivial (fun hHeld => ?_)
      clear hK K c8 f8
      try simp only [Act.put, tdy]
      refine wpAnyH_done (by kernel_rfl) ?_ _
      have HF : Hid (R4 n₀ X ob (es ++ [((pn : Int), zs)]) qs (some ⟨gp, 0, none⟩) k2 (w8.setCell ⟨ob, 1, none⟩ (.slice x3 nl k3)) ∧ TurnS D w (w8.setCell ⟨ob, 1, none⟩ (.slice x3 nl k3))) := ⟨⟨_, _, _, _, hN⟩, hT⟩
      clear hN hHeld hT
      go_wp2_with fail
      go_end0
      exact ⟨rfl, by rw [HQs.out]; exact HF.out.1, HF.out.2⟩
    ·
      have gL : Below w6.heap.size w6 (w6.alloc (.cells #[.int .i64 (pn : Nat), .slice au 64 cu] 133)) := (Below.refl _ w6).alloc (Nat.le_refl _) _
      have hcu : (w6.alloc (.cells #[.int .i64 (pn : Nat), .slice au 64 cu] 133)).cell? ⟨w6.heap.size, 0, none⟩ = some (.int .i64 (pn : Nat)) := by simp [go_sem]
      have hcv : (w6.alloc (.cells #[.int .i64 (pn : Nat), .slice au 64 cu] 133)).cell? ⟨w6.heap.size, 1, none⟩ = some (.slice au 64 cu) := by simp [go_sem]
      go_simp
      go_wp2_with fail
      refine hK.out _ _ trivial (fun hHeld => ?_)
      clear hK K
      have hu := hu.below gL
      have hu0 := hu0.below gL
      have hS := hS.below gL
      have hT := hT.trans (TurnS.ofBelow (S := D) gL)
      generalize w6.heap.size = nb at hcu hcv gL ⊢
      generalize hW7 : w6.alloc (.cells #[.int .i64 (pn : Nat), .slice au 64 cu] 133) = w7 at hS hT hu hcu hcv hHeld gL ⊢
      clear gL hW7
      try simp only [Act.put, tdy]
      refine wpAnyH_ready (rs := [4]) (by kernel_rfl) (by simp) ?_
      refine AllReadyH.cons rfl (fun K hK => ?_) AllReadyH.nil
      have c4 := hS.o.c1
      go_simp
      go_wp2_with fail
      refine hK.out _ _ trivial (fun hHeld => ?_)
      clear hK K c4
      try simp only [Act.put, tdy]
      refine wpAnyH_ready (rs := [10]) (by kernel_rfl) (by simp) ?_
      refine AllReadyH.cons rfl (fun K hK => ?_) AllReadyH.nil
      have hlow : ∀ q, (Value.slice x1 es.length k1).ownBlock = some q → n₀ ≤ q := fun q e => (hS.a.e.row.lt q e).1
      rw [if_pos (by kernel_rfl)]
      refine wp_append_ed _ _ _ rfl n₀ _ es.length (edC es V1) nb (pn : Nat) (.slice au 64 cu) rfl rfl hS.a.e.row hcu hcv rfl (by omega) hS.sz ?_
      intro v' w8 hown' hgrow hob
      refine hK.out _ _ trivial (fun hHeld => ?_)
      clear hK K
      obtain ⟨x3, k3, hv3⟩ : ∃ x3 k3, v' = .slice x3 (es.length + 1) k3 := by
        rcases hown'.2 with ⟨_, h0⟩ | ⟨g3, cap3, cur3, e3, _⟩
        · omega
        · exact ⟨_, _, e3⟩
      subst hv3
      have hN := hS.edit (p := (pn : Nat)) (zs := zs) hu hfr hown' hgrow hob
      have hT := (hT.trans (TurnS.ofGrown (S := D) hgrow (fun q e => hD1 q (.inl e)))).setCell (p := ⟨ob, 1, none⟩) hD3 (.slice x3 (es.length + 1) k3)
      have c8 := (hS.o.grown hgrow (fun e => hS.n1 (.inl e))).c1
      have f8 := (hS.o.grown hgrow (fun e => hS.n1 (.inl e))).f1
      have _gS : Below n₀ w8 (w8.setCell ⟨ob, 1, none⟩ (.slice x3 (es.length + 1) k3)) := Below.grown (Below.refl _ _) (grownOut w8 ob 1 _) (Nat.le_trans hS.sz hgrow.size) (fun q e => by cases e; exact hS.l)
      clear _gS hown' hgrow hob hS hu hcu hcv hlow hfr
      generalize es.length + 1 = nl at hN c8 f8 hT ⊢
      try simp only [Act.put, tdy]
      refine tkH (i := 11) (v := ?v81) rfl (Or.inl ⟨by kernel_rfl, ?h81⟩) hHeld ?_
      case h81 => intro u hSw; skip; go_simp; try with_reducible rfl
      try simp only [Act.put, tdy]
      refine tkH (i := 12) (v := ?v82) rfl (Or.inl ⟨by kernel_rfl, ?h82⟩) hHeld ?_
      case h82 => intro u hSw; skip; go_simp; try with_reducible rfl
      try simp only [Act.put, tdy]
      refine wpAnyH_ready (rs := [13]) (by kernel_rfl) (by simp) ?_
      refine AllReadyH.cons rfl (fun K hK => ?_) AllReadyH.nil
      go_simp
      refine hK.out _ _ trivial (fun hHeld => ?_)
      clear hK K c8 f8
      try simp only [Act.put, tdy]
      refine wpAnyH_done (by kernel_rfl) ?_ _
      have HF : Hid (R4 n₀ X ob (es ++ [((pn : Int), zs)]) qs (some ⟨gp, 0, none⟩) k2 (w8.setCell ⟨ob, 1, none⟩ (.slice x3 nl k3)) ∧ TurnS D w (w8.setCell ⟨ob, 1, none⟩ (.slice x3 nl k3))) := ⟨⟨_, _, _, _, hN⟩, hT⟩
      clear hN hHeld hT
      go_wp2_with fail
      go_end0
      exact ⟨rfl, by rw [HQs.out]; exact HF.out.1, HF.out.2⟩


/-- HpS, and the blocks of sb are none of its blocks, and hold B. -/
structure HpX (sb : Nat → Prop) (B : Nat → Option Obj) (n₀ : Nat) (X : World) (ob : Nat) (es : List (Int × List Int)) (ps : List (List Int)) (x1 : Option Addr) (k1 : Nat) (V1 : List Value) (x2 : Option Addr) (k2 : Nat) (V2 : List Value) (V : World) : Prop extends HpS n₀ X ob es ps x1 k1 V1 x2 k2 V2 V where
  m1 : ∀ g, sb g → ¬ blkP (.slice x1 es.length k1) V1 g
  m2 : ∀ g, sb g → ¬ blkP (.slice x2 ps.length k2) V2 g
  m3 : ∀ g, sb g → g ≠ ob
  b : ∀ g, sb g → V.heap[g]? = B g
  ls : ∀ g, sb g → g < V.heap.size
section
variable {sb : Nat → Prop} {B : Nat → Option Obj} {n₀ : Nat} {X : World} {ob : Nat} {es : List (Int × List Int)} {ps : List (List Int)} {x1 : Option Addr} {k1 : Nat} {V1 : List Value} {x2 : Option Addr} {k2 : Nat} {V2 : List Value} {V V' : World}
theorem HpX.sz (h : HpX sb B n₀ X ob es ps x1 k1 V1 x2 k2 V2 V) : n₀ ≤ V.heap.size := h.toHpS.sz
theorem HpX.below (h : HpX sb B n₀ X ob es ps x1 k1 V1 x2 k2 V2 V) (hb : Below V.heap.size V V') : HpX sb B n₀ X ob es ps x1 k1 V1 x2 k2 V2 V' :=
  ⟨h.toHpS.below hb, h.m1, h.m2, h.m3, fun g hg => (hb.block g (h.ls g hg)).trans (h.b g hg), fun g hg => Nat.lt_of_lt_of_le (h.ls g hg) hb.size⟩
theorem HpX.pages (h : HpX sb B n₀ X ob es ps x1 k1 V1 x2 k2 V2 V) {qs : List (List Int)} {x3 : Option Addr} {k3 : Nat} {V3 : List Value} {row : Option Nat} (hg : V.grownBy V' row) (hr : ∀ g, row = some g → blkP (.slice x2 ps.length k2) V2 g) (hp : PgB n₀ V' (.slice x3 qs.length k3) qs V3) (hs : SepV V3) (hb : ∀ g, blkP (.slice x3 qs.length k3) V3 g → blkP (.slice x2 ps.length k2) V2 g ∨ (¬ blkP (.slice x1 es.length k1) V1 g ∧ g ≠ ob)) (hb2 : ∀ g, blkP (.slice x3 qs.length k3) V3 g → blkP (.slice x2 ps.length k2) V2 g ∨ ¬ sb g) : HpX sb B n₀ X ob es qs x1 k1 V1 x3 k3 V3 (V'.setCell ⟨ob, 0, none⟩ (.slice x3 qs.length k3)) := by
  refine ⟨h.toHpS.pages hg hr hp hs hb, h.m1, fun g hS hh => ?_, h.m3, fun g hS => ?_, fun g hS => ?_⟩
  · rcases hb2 g hh with h1 | h1
    · exact h.m2 g hS h1
    · exact h1 hS
  · rw [Below.heap_setCell _ _ _ _ (fun e => h.m3 g hS (by simpa using e))]
    exact (hg.block g (h.ls g hS) (fun e => h.m2 g hS (hr g e.symm))).trans (h.b g hS)
  · rw [World.size_setCell]; exact Nat.lt_of_lt_of_le (h.ls g hS) hg.size
theorem HpX.edit (h : HpX sb B n₀ X ob es ps x1 k1 V1 x2 k2 V2 V) {p : Int} {zs : List Int} {u : Value} {x3 : Option Addr} {k3 : Nat} (hu : Gb n₀ V u zs) (hfr : ∀ g, u.ownBlock = some g → ¬ blkP (.slice x1 es.length k1) V1 g ∧ ¬ blkP (.slice x2 ps.length k2) V2 g ∧ g ≠ ob) (hfs : ∀ g, u.ownBlock = some g → ¬ sb g) (hrow : V'.ownsRow n₀ 133 2 (.slice x3 (es.length + 1) k3) (es.length + 1) (edC es V1 ++ [.int .i64 p, u])) (hg : V.grownBy V' (Value.slice x1 es.length k1).ownBlock) (hv : (Value.slice x3 (es.length + 1) k3).ownBlock = (Value.slice x1 es.length k1).ownBlock ∨ (Value.slice x3 (es.length + 1) k3).ownBlock = some V.heap.size) : HpX sb B n₀ X ob (es ++ [(p, zs)]) ps x3 k3 (V1 ++ [u]) x2 k2 V2 (V'.setCell ⟨ob, 1, none⟩ (.slice x3 (es.length + 1) k3)) := by
  have hl : (es ++ [(p, zs)]).length = es.length + 1 := by simp
  refine ⟨h.toHpS.edit hu hfr hrow hg hv, fun g hS hh => ?_, h.m2, h.m3, fun g hS => ?_, fun g hS => ?_⟩
  · rw [hl] at hh
    rcases blk_append hh hv with h1 | h1 | h1
    · exact h.m1 g hS h1
    · have := h.ls g hS; omega
    · exact hfs g h1 hS
  · rw [Below.heap_setCell _ _ _ _ (fun e => h.m3 g hS (by simpa using e))]
    exact (hg.block g (h.ls g hS) (fun e => h.m1 g hS (.inl e.symm))).trans (h.b g hS)
  · rw [World.size_setCell]; exact Nat.lt_of_lt_of_le (h.ls g hS) hg.size
end
theorem HpX.setPage {sb : Nat → Prop} {B : Nat → Option Obj} {n₀ : Nat} {X : World} {ob : Nat} {es : List (Int × List Int)} {ps : List (List Int)} {x1 : Option Addr} {k1 : Nat} {V1 : List Value} {gp k2 : Nat} {V2 : List Value} {V : World} (h : HpX sb B n₀ X ob es ps x1 k1 V1 (some ⟨gp, 0, none⟩) k2 V2 V) {u : Value} {zs : List Int} {i : Nat} (hi : i < ps.length) (hu : Gb n₀ V u zs) (hfr : ∀ g, u.ownBlock = some g → ¬ blkP (.slice x1 es.length k1) V1 g ∧ ¬ blkP (.slice (some ⟨gp, 0, none⟩) ps.length k2) V2 g ∧ g ≠ ob) (hfs : ∀ g, u.ownBlock = some g → ¬ sb g) : HpX sb B n₀ X ob es (ps.set i zs) x1 k1 V1 (some ⟨gp, 0, none⟩) k2 (V2.set i u) (V.setCell ⟨gp, i, none⟩ u) := by
  have hl : (ps.set i zs).length = ps.length := List.length_set
  refine ⟨h.toHpS.setPage hi hu hfr, h.m1, fun g hS hh => ?_, h.m3, fun g hS => ?_, fun g hS => by rw [World.size_setCell]; exact h.ls g hS⟩
  · rw [hl] at hh
    rcases hh with h1 | ⟨y, hy, h1⟩
    · exact h.m2 g hS (.inl h1)
    · rcases List.mem_or_eq_of_mem_set hy with h2 | rfl
      · exact h.m2 g hS (.inr ⟨y, h2, h1⟩)
      · exact hfs g h1 hS
  · rw [Below.heap_setCell _ _ _ _ (fun e => h.m2 g hS (.inl (by have : g = gp := by simpa using e
                                                                 rw [this]; rfl)))]
    exact h.b g hS
section
variable {sb : Nat → Prop} {B : Nat → Option Obj} {n₀ : Nat} {X : World} {ob : Nat} {es : List (Int × List Int)} {ps : List (List Int)} {x1 : Option Addr} {k1 : Nat} {V1 : List Value} {x2 : Option Addr} {k2 : Nat} {V2 : List Value} {V W : World}
/-- What stands there of the bytes in a block of sb. -/
theorem HpX.rd (h : HpX sb B n₀ X ob es ps x1 k1 V1 x2 k2 V2 V) {cb so : Nat} {cs : List Int} (hc : sb cb) (hW : W.heap[cb]? = B cb) (hr : Reads W (some ⟨cb, so, none⟩) cs) : Reads V (some ⟨cb, so, none⟩) cs := by
  rcases hr with h0 | ⟨b, o, e, hc'⟩
  · exact .inl h0
  · cases e
    exact .inr ⟨_, _, rfl, fun k hk => (World.cell?_of_block (a := ⟨cb, so + k, none⟩) ((h.b cb hc).trans hW.symm)).trans (hc' k hk)⟩
/-- The same, told by the world as it is. -/
theorem HpX.now (h : HpX sb B n₀ X ob es ps x1 k1 V1 x2 k2 V2 V) : HpX sb (fun g => V.heap[g]?) n₀ X ob es ps x1 k1 V1 x2 k2 V2 V := ⟨h.toHpS, h.m1, h.m2, h.m3, fun _ _ => rfl, h.ls⟩
/-- A block of sb is written. -/
theorem HpX.put (h : HpX sb B n₀ X ob es ps x1 k1 V1 x2 k2 V2 V) {g o : Nat} (hg : sb g) (hn : n₀ ≤ g) (u : Value) : HpX sb (fun q => (V.setCell ⟨g, o, none⟩ u).heap[q]?) n₀ X ob es ps x1 k1 V1 x2 k2 V2 (V.setCell ⟨g, o, none⟩ u) := by
  have g2 := grownOut V g o u
  refine ⟨⟨⟨h.a.e.kept g2 (fun q hh e => by cases e; exact h.m1 _ hg hh), h.a.p.kept g2 (fun q hh e => by cases e; exact h.m2 _ hg hh), h.a.s1, h.a.s2, h.a.d⟩, h.o.grown g2 (fun e => by cases e; exact h.m3 _ hg rfl), h.n1, h.n2, h.g.grown g2 h.sz (fun q e => by cases e; exact hn), h.l⟩, h.m1, h.m2, h.m3, fun _ _ => rfl, fun q hq => by rw [World.size_setCell]; exact h.ls q hq⟩
end

end Go.Proofs.YtnfolgoloaeanaaGreat

