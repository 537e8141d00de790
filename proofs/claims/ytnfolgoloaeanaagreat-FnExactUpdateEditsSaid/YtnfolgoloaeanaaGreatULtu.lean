/-
  The model's l7Turn, where a page that is there is turned.
-/
import Derived.Test.YtnfolgoloaeanaaGreatUMae

namespace Go.Proofs.YtnfolgoloaeanaaGreat
open Go.RowKit
set_option linter.unusedVariables false

theorem Gb.rd {base : Nat} {w : World} {a : Option Addr} {n c : Nat} {xs : List Int} (h : Gb base w (.slice a n c) xs) : Reads w a xs := by
  obtain ⟨a', c', f, e, hb, _⟩ := h.one
  injection e with e1 e2 e3
  rw [e1]
  exact hb.reads
def R3 (n₀ : Nat) (X : World) (ob : Nat) (es : List (Int × List Int)) (qs : List (List Int)) (V : World) : Prop := ∃ x1 k1 V1 x2 k2 V2, HpS n₀ X ob es qs x1 k1 V1 x2 k2 V2 V
def TuPost (n₀ : Nat) (X : World) (ob : Nat) (es : List (Int × List Int)) (qs : List (List Int)) (e : Ending) (V : World) : Prop := e = .returned (.tuple #[]) ∧ R3 n₀ X ob es qs V

set_option maxRecDepth 20000 in
set_option maxHeartbeats 4000000 in
theorem l7Turn_old (n₀ : Nat) (X : World) (ob : Nat) (es : List (Int × List Int)) (cur : List (List Int)) (x1 : Option Addr) (k1 : Nat) (V1 : List Value) (x2 : Option Addr) (k2 : Nat) (V2 : List Value) (pn : Nat) (xa : Option Addr) (c : Nat) (zs old : List Int) (w : World) (hS : HpS n₀ X ob es cur x1 k1 V1 x2 k2 V2 w) (hp : cur[pn]? = some old) (ho : ∀ z ∈ old, 0 ≤ z ∧ z ≤ 255) (hz : ∀ z ∈ zs, 0 ≤ z ∧ z ≤ 255) (hne : old ≠ zs) (h64 : zs.length = 64) (hc12 : cur.length ≤ 12) (hel : es.length ≤ 1000) (hu : Gb n₀ w (.slice xa 64 c) zs) (hfr : ∀ g, (Value.slice xa 64 c).ownBlock = some g → ¬ blkP (.slice x1 es.length k1) V1 g ∧ ¬ blkP (.slice x2 cur.length k2) V2 g ∧ g ≠ ob) :
    Calls Tryz.prog 165 #[.pointer (some ⟨ob, 0, none⟩), .int .i64 pn, .slice xa 64 c] w fun e w' => TuPost n₀ X ob (es ++ [((pn : Int), zs)]) (cur.set pn zs) e w' := by
  have hpl : pn < cur.length := (List.getElem?_eq_some_iff.1 hp).1
  obtain ⟨gp, hx2⟩ : ∃ gp, x2 = some ⟨gp, 0, none⟩ := by
    rcases hS.a.p.row.2 with ⟨_, h0⟩ | ⟨gp, cap, cu, e, _⟩
    · omega
    · cases e; exact ⟨gp, rfl⟩
  subst hx2
  obtain ⟨y0, hy0⟩ : ∃ y, V2[pn]? = some y := ⟨_, List.getElem?_eq_getElem (by rw [hS.a.p.len]; omega)⟩
  have hyb := hS.a.p.by' pn y0 old hy0 hp
  obtain ⟨ay, cy, fy, hye, hby, _⟩ := Gb.one hyb
  have c8 := hS.a.p.row.cellAt pn (by omega)
  rw [hy0, hye] at c8
  obtain ⟨au, cu, fu, hue, hbu, _⟩ := Gb.one hu
  have hrd : Reads w xa zs := by injection hue with e1 e2 e3; rw [e1]; exact hbu.reads
  have q1 : ∀ n, (convert 22 9 (.slice ay old.length cy)).run Tryz.prog (w.drewN n) = .ok (.string (strOfNums old)) (w.drewN n) := fun n => convert_any _ ay old.length cy old rfl hby.reads
  have q2 : ∀ n, (convert 22 9 (.slice xa 64 c)).run Tryz.prog (w.drewN n) = .ok (.string (strOfNums zs)) (w.drewN n) := fun n => convert_any _ xa 64 c zs h64 hrd
  have q10 := convert_any w ay old.length cy old rfl hby.reads
  have q20 := convert_any w xa 64 c zs h64 hrd
  have HE : Hid (((strOfNums old).toList == (strOfNums zs).toList) = false) := by
    show _ = _
    rw [Bool.eq_false_iff, Go.Lib.strOfNums_toList, Go.Lib.strOfNums_toList, ne_eq, beq_iff_eq]
    exact fun e => hne (strOf_inj old zs ho hz e)
  generalize strOfNums old = s at q1 q10 HE
  generalize strOfNums zs = t at q2 q20 HE
  have dE := HE.out
  obtain ⟨o0, o1, _, _⟩ := hS.o
  have hpi : (pn : Int) < (cur.length : Int) := by omega
  have dn : (((pn : Nat) : Int) == (cur.length : Int)) = false := by
    have : ¬ ((pn : Int) = (cur.length : Int)) := by omega
    simpa using this
  have HS : Hid _ := hS
  have HU : Hid (Gb n₀ w (.slice xa 64 c) zs) := hu
  clear hS hu hyb hby hbu hue hye hy0 hrd
  go_enter Tryz.func165, Tryz.ntmps165
  go_upto_region 2 with (fail)
  go_quiet (fail)
  go_upto_region 3 with (fail)
  have HZ : Hid (zs.length = 64) := h64
  have HFr : Hid _ := hfr
  clear hfr hp hne q1 q2 q10 q20 HE dE o0 o1 c8
  have hS : HpS n₀ X ob es cur x1 k1 V1 (some ⟨gp, 0, none⟩) k2 V2 (w.drewN nq) := HS.out.below ⟨rfl, rfl, rfl, Nat.le_refl _, fun _ _ => rfl⟩
  have hu0 : Gb n₀ (w.drewN nq) (.slice xa 64 c) zs := HU.out.below ⟨rfl, rfl, rfl, Nat.le_refl _, fun _ _ => rfl⟩
  clear HS HU
  generalize w.drewN nq = wq at hS hu0 ⊢
  refine wp_region_held_drew (S := fun V => HpC V ob (.slice x1 es.length k1) (.slice (some ⟨gp, 0, none⟩) cur.length k2)) (by kernel_rfl) (hS.o.below (Below.refl _ wq).drew) (fun hHeld => ?_)
  have hS := hS.below (Below.refl wq.heap.size wq).drew
  have hu0 := hu0.below (Below.refl wq.heap.size wq).drew
  generalize wq.drew = D at hHeld hS hu0 ⊢
  refine tkH (i := 0) (v := ?v48) rfl (Or.inl ⟨by kernel_rfl, ?h48⟩) hHeld ?_
  case h48 => intro u hSw; obtain ⟨r0, r1, _, _⟩ := hSw; (try dsimp only at r0 r1); go_simp; try with_reducible rfl
  try simp only [Act.put, tdy]
  refine tkH (i := 1) (v := ?v49) rfl (Or.inl ⟨by kernel_rfl, ?h49⟩) hHeld ?_
  case h49 => intro u hSw; obtain ⟨r0, r1, _, _⟩ := hSw; (try dsimp only at r0 r1); go_simp; try with_reducible rfl
  try simp only [Act.put, tdy]
  refine tkH (i := 2) (v := ?v50) rfl (Or.inl ⟨by kernel_rfl, ?h50⟩) hHeld ?_
  case h50 => intro u hSw; obtain ⟨r0, r1, _, _⟩ := hSw; (try dsimp only at r0 r1); go_simp; try with_reducible rfl
  try simp only [Act.put, tdy]
  refine tkH (i := 3) (v := ?v51) rfl (Or.inl ⟨by kernel_rfl, ?h51⟩) hHeld ?_
  case h51 => intro u hSw; obtain ⟨r0, r1, _, _⟩ := hSw; (try dsimp only at r0 r1); go_simp; try with_reducible rfl
  try simp only [Act.put, tdy]
  refine tkH (i := 4) (v := ?v52) rfl (Or.inl ⟨by kernel_rfl, ?h52⟩) hHeld ?_
  case h52 => intro u hSw; obtain ⟨r0, r1, _, _⟩ := hSw; (try dsimp only at r0 r1); go_simp; try with_reducible rfl
  try simp only [Act.put, tdy]
  refine tkH (i := 5) (v := ?v53) rfl (Or.inl ⟨by kernel_rfl, ?h53⟩) hHeld ?_
  case h53 => intro u hSw; obtain ⟨r0, r1, _, _⟩ := hSw; (try dsimp only at r0 r1); go_simp; try with_reducible rfl
  try simp only [Act.put, tdy]
  refine wpAnyH_ready (rs := [6]) (by kernel_rfl) (by simp) ?_
  refine AllReadyH.cons rfl (fun K hK => ?_) AllReadyH.nil
  have hsD := hS.sz
  have hAf := hS.a
  have hol := hS.o.lt
  go_simp
  go_wp2_with (go_at_call 89; refine (l2Copy_gen xa zs 64 c _ HZ.out (by omega) hu0.rd).mono ?_; rintro e w6 ⟨u, rfl, g6, hu⟩; obtain ⟨au, cu, hu0'⟩ := hu.form; rw [HZ.out] at hu0'; subst hu0')
  refine hK.out _ _ (hHeld.below g6) (fun hHeld => ?_)
  clear hK K
  have hfr : ∀ g, (Value.slice au 64 cu).ownBlock = some g → ¬ blkP (.slice x1 es.length k1) V1 g ∧ ¬ blkP (.slice (some ⟨gp, 0, none⟩) cur.length k2) V2 g ∧ g ≠ ob := fun g e => by
    have h1 := (Gb.lt hu g e).1
    exact ⟨fun hh => by have := (hAf.e.lt hh).2; omega, fun hh => by have := (hAf.p.lt hh).2; omega, fun hh => by omega⟩
  have hu : Gb n₀ w6 (.slice au 64 cu) zs := hu.base hsD
  have hS := hS.below g6
  have hu0 := hu0.below g6
  clear g6 hsD hAf hol
  try simp only [Act.put, tdy]
  refine tkH (i := 7) (v := ?v54) rfl (Or.inl ⟨by kernel_rfl, ?h54⟩) hHeld ?_
  case h54 => intro u hSw; obtain ⟨r0, r1, _, _⟩ := hSw; (try dsimp only at r0 r1); go_simp; try with_reducible rfl
  try simp only [Act.put, tdy]
  refine wpAnyH_ready (rs := [8]) (by kernel_rfl) (by simp) ?_
  refine AllReadyH.cons rfl (fun K hK => ?_) AllReadyH.nil
  have hN := hS.setPage (i := pn) (by omega) hu hfr
  obtain ⟨y1, hy1⟩ : ∃ y, V2[pn]? = some y := ⟨_, List.getElem?_eq_getElem (by rw [hS.a.p.len]; omega)⟩
  have c8 := hS.a.p.row.cellAt pn (by omega)
  rw [hy1] at c8
  have f8 : w6.frozen? ⟨gp, pn, none⟩ = false := hS.a.p.row.frozenAt _
  have hO9 := hHeld.grown (grownOut w6 gp pn (.slice au 64 cu)) (fun e => hS.n2 (.inl e))
  have hu1 : Gb n₀ (w6.setCell ⟨gp, pn, none⟩ (.slice au 64 cu)) (.slice xa 64 c) zs := Gb.other hu0 (a := ⟨gp, pn, none⟩) (fun e => (HFr.out gp e).2.1 (.inl rfl)) _
  clear hS hu hfr hy1 hu0
  go_simp
  refine hK.out _ _ hO9 (fun hHeld => ?_)
  clear hK K c8 f8 hO9
  try simp only [Act.put, tdy]
  refine wpAnyH_done (by kernel_rfl) ?_ _
  clear hHeld
  generalize (V2.set pn (.slice au 64 cu)) = V3 at hN
  have hql : (cur.set pn zs).length = cur.length := List.length_set
  obtain ⟨qs, hqs⟩ : ∃ qs, cur.set pn zs = qs := ⟨_, rfl⟩
  rw [hqs] at hN hql
  have HQs : Hid (cur.set pn zs = qs) := hqs
  clear hqs
  generalize w6.setCell ⟨gp, pn, none⟩ (.slice au 64 cu) = wq at hN hu1 ⊢
  go_upto_region 4 with (fail)
  refine wp_region_held_drew (S := fun _ => True) (by kernel_rfl) trivial (fun hHeld => ?_)
  have hS := hN.below (Below.refl wq.heap.size wq).drew
  have hu0 := hu1.below (Below.refl wq.heap.size wq).drew
  clear hN hu1
  generalize wq.drew = D at hHeld hS hu0 ⊢
  generalize V3 = V2 at hS
  refine tkH (i := 0) (v := ?v55) rfl (Or.inl ⟨by kernel_rfl, ?h55⟩) hHeld ?_
  case h55 => intro u hSw; skip; go_simp; try with_reducible rfl
  try simp only [Act.put, tdy]
  refine tkH (i := 1) (v := ?v56) rfl (Or.inl ⟨by kernel_rfl, ?h56⟩) hHeld ?_
  case h56 => intro u hSw; skip; go_simp; try with_reducible rfl
  try simp only [Act.put, tdy]
  refine tkH (i := 2) (v := ?v57) rfl (Or.inl ⟨by kernel_rfl, ?h57⟩) hHeld ?_
  case h57 => intro u hSw; skip; go_simp; try with_reducible rfl
  try simp only [Act.put, tdy]
  refine tkH (i := 3) (v := ?v58) rfl (Or.inl ⟨by kernel_rfl, ?h58⟩) hHeld ?_
  case h58 => intro u hSw; skip; go_simp; try with_reducible rfl
  try simp only [Act.put, tdy]
  refine tkH (i := 5) (v := ?v59) rfl (Or.inl ⟨by kernel_rfl, ?h59⟩) hHeld ?_
  case h59 => intro u hSw; skip; go_simp; try with_reducible rfl
  try simp only [Act.put, tdy]
  refine tkH (i := 6) (v := ?v60) rfl (Or.inl ⟨by kernel_rfl, ?h60⟩) hHeld ?_
  case h60 => intro u hSw; skip; go_simp; try with_reducible rfl
  try simp only [Act.put, tdy]
  refine wpAnyH_ready (rs := [4, 7]) (by kernel_rfl) (by simp) ?_
  refine AllReadyH.cons rfl (fun K hK => ?_) (AllReadyH.cons rfl (fun K hK => ?_) AllReadyH.nil)
  ·
    have c4 := hS.o.c1
    go_simp
    go_wp2_with fail
    refine hK.out _ _ trivial (fun hHeld => ?_)
    clear hK K c4
    try simp only [Act.put, tdy]
    refine wpAnyH_ready (rs := [7]) (by kernel_rfl) (by simp) ?_
    refine AllReadyH.cons rfl (fun K hK => ?_) AllReadyH.nil
    have hsD := hS.sz
    have hAf := hS.a
    have hol := hS.o.lt
    go_simp
    go_wp2_with (go_at_call 89; refine (l2Copy_gen xa zs 64 c _ HZ.out (by omega) hu0.rd).mono ?_; rintro e w6 ⟨u, rfl, g6, hu⟩; obtain ⟨au, cu, hu0'⟩ := hu.form; rw [HZ.out] at hu0'; subst hu0')
    refine hK.out _ _ (trivial) (fun hHeld => ?_)
    clear hK K
    have hfr : ∀ g, (Value.slice au 64 cu).ownBlock = some g → ¬ blkP (.slice x1 es.length k1) V1 g ∧ ¬ blkP (.slice (some ⟨gp, 0, none⟩) qs.length k2) V2 g ∧ g ≠ ob := fun g e => by
      have h1 := (Gb.lt hu g e).1
      exact ⟨fun hh => by have := (hAf.e.lt hh).2; omega, fun hh => by have := (hAf.p.lt hh).2; omega, fun hh => by omega⟩
    have hu : Gb n₀ w6 (.slice au 64 cu) zs := hu.base hsD
    have hS := hS.below g6
    have hu0 := hu0.below g6
    clear g6 hsD hAf hol
    try simp only [Act.put, tdy]
    refine tkH (i := 8) (v := ?v61) rfl (Or.inl ⟨by kernel_rfl, ?h61⟩) hHeld ?_
    case h61 => intro u hSw; skip; go_simp; try with_reducible rfl
    try simp only [Act.put, tdy]
    refine wpAnyH_ready (rs := [9]) (by kernel_rfl) (by simp) ?_
    refine AllReadyH.cons rfl (fun K hK => ?_) AllReadyH.nil
    have gL : Below w6.heap.size w6 (w6.alloc (.cells #[.int .i64 (pn : Nat), .slice au 64 cu] 133)) := (Below.refl _ w6).alloc (Nat.le_refl _) _
    have hcu : (w6.alloc (.cells #[.int .i64 (pn : Nat), .slice au 64 cu] 133)).cell? ⟨w6.heap.size, 0, none⟩ = some (.int .i64 (pn : Nat)) := by simp [go_sem]
    have hcv : (w6.alloc (.cells #[.int .i64 (pn : Nat), .slice au 64 cu] 133)).cell? ⟨w6.heap.size, 1, none⟩ = some (.slice au 64 cu) := by simp [go_sem]
    go_simp
    go_wp2_with fail
    refine hK.out _ _ trivial (fun hHeld => ?_)
    clear hK K
    have hu := hu.below gL
    have hu0 := hu0.below gL
    have hS := hS.below gL
    generalize w6.heap.size = nb at hcu hcv gL ⊢
    generalize hW7 : w6.alloc (.cells #[.int .i64 (pn : Nat), .slice au 64 cu] 133) = w7 at hS hu hcu hcv hHeld gL ⊢
    clear gL hW7
    try simp only [Act.put, tdy]
    refine wpAnyH_ready (rs := [10]) (by kernel_rfl) (by simp) ?_
    refine AllReadyH.cons rfl (fun K hK => ?_) AllReadyH.nil
    have hlow : ∀ q, (Value.slice x1 es.length k1).ownBlock = some q → n₀ ≤ q := fun q e => (hS.a.e.row.lt q e).1
    rw [if_pos (by kernel_rfl)]
    refine wp_append_ed _ _ _ rfl n₀ _ es.length (edC es V1) nb (pn : Nat) (.slice au 64 cu) rfl rfl hS.a.e.row hcu hcv rfl (by omega) hS.sz ?_
    intro v' w8 hown' hgrow hob
    refine hK.out _ _ trivial (fun hHeld => ?_)
    clear hK K
    obtain ⟨x3, k3, hv3⟩ : ∃ x3 k3, v' = .slice x3 (es.length + 1) k3 := by
      rcases hown'.2 with ⟨_, h0⟩ | ⟨g3, cap3, cur3, e3, _⟩
      · omega
      · exact ⟨_, _, e3⟩
    subst hv3
    have hN := hS.edit (p := (pn : Nat)) (zs := zs) hu hfr hown' hgrow hob
    have c8 := (hS.o.grown hgrow (fun e => hS.n1 (.inl e))).c1
    have f8 := (hS.o.grown hgrow (fun e => hS.n1 (.inl e))).f1
    have _gS : Below n₀ w8 (w8.setCell ⟨ob, 1, none⟩ (.slice x3 (es.length + 1) k3)) := Below.grown (Below.refl _ _) (grownOut w8 ob 1 _) (Nat.le_trans hS.sz hgrow.size) (fun q e => by cases e; exact hS.l)
    clear _gS hown' hgrow hob hS hu hcu hcv hlow hfr
    generalize es.length + 1 = nl at hN c8 f8 ⊢
    try simp only [Act.put, tdy]
    refine tkH (i := 11) (v := ?v62) rfl (Or.inl ⟨by kernel_rfl, ?h62⟩) hHeld ?_
    case h62 => intro u hSw; skip; go_simp; try with_reducible rfl
    try simp only [Act.put, tdy]
    refine tkH (i := 12) (v := ?v63) rfl (Or.inl ⟨by kernel_rfl, ?h63⟩) hHeld ?_
    case h63 => intro u hSw; skip; go_simp; try with_reducible rfl
    try simp only [Act.put, tdy]
    refine wpAnyH_ready (rs := [13]) (by kernel_rfl) (by simp) ?_
    refine AllReadyH.cons rfl (fun K hK => ?_) AllReadyH.nil
    go_simp
    refine hK.out _ _ trivial (fun hHeld => ?_)
    clear hK K c8 f8
    try simp only [Act.put, tdy]
    refine wpAnyH_done (by kernel_rfl) ?_ _
    have HF : Hid (R3 n₀ X ob (es ++ [((pn : Int), zs)]) qs (w8.setCell ⟨ob, 1, none⟩ (.slice x3 nl k3))) := ⟨_, _, _, _, _, _, hN⟩
    clear hN hHeld
    go_wp2_with fail
    go_end0
    exact ⟨rfl, by rw [HQs.out]; exact HF.out⟩
  ·
    have hsD := hS.sz
    have hAf := hS.a
    have hol := hS.o.lt
    go_simp
    go_wp2_with (go_at_call 89; refine (l2Copy_gen xa zs 64 c _ HZ.out (by omega) hu0.rd).mono ?_; rintro e w6 ⟨u, rfl, g6, hu⟩; obtain ⟨au, cu, hu0'⟩ := hu.form; rw [HZ.out] at hu0'; subst hu0')
    refine hK.out _ _ (trivial) (fun hHeld => ?_)
    clear hK K
    have hfr : ∀ g, (Value.slice au 64 cu).ownBlock = some g → ¬ blkP (.slice x1 es.length k1) V1 g ∧ ¬ blkP (.slice (some ⟨gp, 0, none⟩) qs.length k2) V2 g ∧ g ≠ ob := fun g e => by
      have h1 := (Gb.lt hu g e).1
      exact ⟨fun hh => by have := (hAf.e.lt hh).2; omega, fun hh => by have := (hAf.p.lt hh).2; omega, fun hh => by omega⟩
    have hu : Gb n₀ w6 (.slice au 64 cu) zs := hu.base hsD
    have hS := hS.below g6
    have hu0 := hu0.below g6
    clear g6 hsD hAf hol
    try simp only [Act.put, tdy]
    refine tkH (i := 8) (v := ?v64) rfl (Or.inl ⟨by kernel_rfl, ?h64⟩) hHeld ?_
    case h64 => intro u hSw; skip; go_simp; try with_reducible rfl
    try simp only [Act.put, tdy]
    refine wpAnyH_ready (rs := [4, 9]) (by kernel_rfl) (by simp) ?_
    refine AllReadyH.cons rfl (fun K hK => ?_) (AllReadyH.cons rfl (fun K hK => ?_) AllReadyH.nil)
    ·
      have c4 := hS.o.c1
      go_simp
      go_wp2_with fail
      refine hK.out _ _ trivial (fun hHeld => ?_)
      clear hK K c4
      try simp only [Act.put, tdy]
      refine wpAnyH_ready (rs := [9]) (by kernel_rfl) (by simp) ?_
      refine AllReadyH.cons rfl (fun K hK => ?_) AllReadyH.nil
      have gL : Below w6.heap.size w6 (w6.alloc (.cells #[.int .i64 (pn : Nat), .slice au 64 cu] 133)) := (Below.refl _ w6).alloc (Nat.le_refl _) _
      have hcu : (w6.alloc (.cells #[.int .i64 (pn : Nat), .slice au 64 cu] 133)).cell? ⟨w6.heap.size, 0, none⟩ = some (.int .i64 (pn : Nat)) := by simp [go_sem]
      have hcv : (w6.alloc (.cells #[.int .i64 (pn : Nat), .slice au 64 cu] 133)).cell? ⟨w6.heap.size, 1, none⟩ = some (.slice au 64 cu) := by simp [go_sem]
      go_simp
      go_wp2_with fail
      refine hK.out _ _ trivial (fun hHeld => ?_)
      clear hK K
      have hu := hu.below gL
      have hu0 := hu0.below gL
      have hS := hS.below gL
      generalize w6.heap.size = nb at hcu hcv gL ⊢
      generalize hW7 : w6.alloc (.cells #[.int .i64 (pn : Nat), .slice au 64 cu] 133) = w7 at hS hu hcu hcv hHeld gL ⊢
      clear gL hW7
      try simp only [Act.put, tdy]
      refine wpAnyH_ready (rs := [10]) (by kernel_rfl) (by simp) ?_
      refine AllReadyH.cons rfl (fun K hK => ?_) AllReadyH.nil
      have hlow : ∀ q, (Value.slice x1 es.length k1).ownBlock = some q → n₀ ≤ q := fun q e => (hS.a.e.row.lt q e).1
      rw [if_pos (by kernel_rfl)]
      refine wp_append_ed _ _ _ rfl n₀ _ es.length (edC es V1) nb (pn : Nat) (.slice au 64 cu) rfl rfl hS.a.e.row hcu hcv rfl (by omega) hS.sz ?_
      intro v' w8 hown' hgrow hob
      refine hK.out _ _ trivial (fun hHeld => ?_)
      clear hK K
      obtain ⟨x3, k3, hv3⟩ : ∃ x3 k3, v' = .slice x3 (es.length + 1) k3 := by
        rcases hown'.2 with ⟨_, h0⟩ | ⟨g3, cap3, cur3, e3, _⟩
        · omega
        · exact ⟨_, _, e3⟩
      subst hv3
      have hN := hS.edit (p := (pn : Nat)) (zs := zs) hu hfr hown' hgrow hob
      have c8 := (hS.o.grown hgrow (fun e => hS.n1 (.inl e))).c1
      have f8 := (hS.o.grown hgrow (fun e => hS.n1 (.inl e))).f1
      have _gS : Below n₀ w8 (w8.setCell ⟨ob, 1, none⟩ (.slice x3 (es.length + 1) k3)) := Below.grown (Below.refl _ _) (grownOut w8 ob 1 _) (Nat.le_trans hS.sz hgrow.size) (fun q e => by cases e; exact hS.l)
      clear _gS hown' hgrow hob hS hu hcu hcv hlow hfr
      generalize es.length + 1 = nl at hN c8 f8 ⊢
      try simp only [Act.put, tdy]
      refine tkH (i := 11) (v := ?v65) rfl (Or.inl ⟨by kernel_rfl, ?h65⟩) hHeld ?_
      case h65 => intro u hSw; skip; go_simp; try with_reducible rfl
      try simp only [Act.put, tdy]
      refine tkH (i := 12) (v := ?v66) rfl (Or.inl ⟨by kernel_rfl, ?h66⟩) hHeld ?_
      case h66 => intro u hSw; skip; go_simp; try with_reducible rfl
      try simp only [Act.put, tdy]
      refine wpAnyH_ready (rs := [13]) (by kernel_rfl) (by simp) ?_
      refine AllReadyH.cons rfl (fun K hK => ?_) AllReadyH.nil
      go_simp
      refine hK.out _ _ trivial (fun hHeld => ?_)
      clear hK K c8 f8
      try simp only [Act.put, tdy]
      refine wpAnyH_done (by kernel_rfl) ?_ _
      have HF : Hid (R3 n₀ X ob (es ++ [((pn : Int), zs)]) qs (w8.setCell ⟨ob, 1, none⟩ (.slice x3 nl k3))) := ⟨_, _, _, _, _, _, hN⟩
      clear hN hHeld
      go_wp2_with fail
      go_end0
      exact ⟨rfl, by rw [HQs.out]; exact HF.out⟩
    ·
      have gL : Below w6.heap.size w6 (w6.alloc (.cells #[.int .i64 (pn : Nat), .slice au 64 cu] 133)) := (Below.refl _ w6).alloc (Nat.le_refl _) _
      have hcu : (w6.alloc (.cells #[.int .i64 (pn : Nat), .slice au 64 cu] 133)).cell? ⟨w6.heap.size, 0, none⟩ = some (.int .i64 (pn : Nat)) := by simp [go_sem]
      have hcv : (w6.alloc (.cells #[.int .i64 (pn : Nat), .slice au 64 cu] 133)).cell? ⟨w6.heap.size, 1, none⟩ = some (.slice au 64 cu) := by simp [go_sem]
      go_simp
      go_wp2_with fail
      refine hK.out _ _ trivial (fun hHeld => ?_)
      clear hK K
      have hu := hu.below gL
      have hu0 := hu0.below gL
      have hS := hS.below gL
      generalize w6.heap.size = nb at hcu hcv gL ⊢
      generalize hW7 : w6.alloc (.cells #[.int .i64 (pn : Nat), .slice au 64 cu] 133) = w7 at hS hu hcu hcv hHeld gL ⊢
      clear gL hW7
      try simp only [Act.put, tdy]
      refine wpAnyH_ready (rs := [4]) (by kernel_rfl) (by simp) ?_
      refine AllReadyH.cons rfl (fun K hK => ?_) AllReadyH.nil
      have c4 := hS.o.c1
      go_simp
      go_wp2_with fail
      refine hK.out _ _ trivial (fun hHeld => ?_)
      clear hK K c4
      try simp only [Act.put, tdy]
      refine wpAnyH_ready (rs := [10]) (by kernel_rfl) (by simp) ?_
      refine AllReadyH.cons rfl (fun K hK => ?_) AllReadyH.nil
      have hlow : ∀ q, (Value.slice x1 es.length k1).ownBlock = some q → n₀ ≤ q := fun q e => (hS.a.e.row.lt q e).1
      rw [if_pos (by kernel_rfl)]
      refine wp_append_ed _ _ _ rfl n₀ _ es.length (edC es V1) nb (pn : Nat) (.slice au 64 cu) rfl rfl hS.a.e.row hcu hcv rfl (by omega) hS.sz ?_
      intro v' w8 hown' hgrow hob
      refine hK.out _ _ trivial (fun hHeld => ?_)
      clear hK K
      obtain ⟨x3, k3, hv3⟩ : ∃ x3 k3, v' = .slice x3 (es.length + 1) k3 := by
        rcases hown'.2 with ⟨_, h0⟩ | ⟨g3, cap3, cur3, e3, _⟩
        · omega
        · exact ⟨_, _, e3⟩
      subst hv3
      have hN := hS.edit (p := (pn : Nat)) (zs := zs) hu hfr hown' hgrow hob
      have c8 := (hS.o.grown hgrow (fun e => hS.n1 (.inl e))).c1
      have f8 := (hS.o.grown hgrow (fun e => hS.n1 (.inl e))).f1
      have _gS : Below n₀ w8 (w8.setCell ⟨ob, 1, none⟩ (.slice x3 (es.length + 1) k3)) := Below.grown (Below.refl _ _) (grownOut w8 ob 1 _) (Nat.le_trans hS.sz hgrow.size) (fun q e => by cases e; exact hS.l)
      clear _gS hown' hgrow hob hS hu hcu hcv hlow hfr
      generalize es.length + 1 = nl at hN c8 f8 ⊢
      try simp only [Act.put, tdy]
      refine tkH (i := 11) (v := ?v67) rfl (Or.inl ⟨by kernel_rfl, ?h67⟩) hHeld ?_
      case h67 => intro u hSw; skip; go_simp; try with_reducible rfl
      try simp only [Act.put, tdy]
      refine tkH (i := 12) (v := ?v68) rfl (Or.inl ⟨by kernel_rfl, ?h68⟩) hHeld ?_
      case h68 => intro u hSw; skip; go_simp; try with_reducible rfl
      try simp only [Act.put, tdy]
      refine wpAnyH_ready (rs := [13]) (by kernel_rfl) (by simp) ?_
      refine AllReadyH.cons rfl (fun K hK => ?_) AllReadyH.nil
      go_simp
      refine hK.out _ _ trivial (fun hHeld => ?_)
      clear hK K c8 f8
      try simp only [Act.put, tdy]
      refine wpAnyH_done (by kernel_rfl) ?_ _
      have HF : Hid (R3 n₀ X ob (es ++ [((pn : Int), zs)]) qs (w8.setCell ⟨ob, 1, none⟩ (.slice x3 nl k3))) := ⟨_, _, _, _, _, _, hN⟩
      clear hN hHeld
      go_wp2_with fail
      go_end0
      exact ⟨rfl, by rw [HQs.out]; exact HF.out⟩

end Go.Proofs.YtnfolgoloaeanaaGreat

