/-
  What UpdateEdits answers, plainly.
-/
import Derived.Test.YtnfolgoloaeanaaGreatUDeb
import Derived.Test.YtnfolgoloaeanaaGreatUIde
import Derived.Test.YtnfolgoloaeanaaGreatUImv

namespace Go.Proofs.YtnfolgoloaeanaaGreat
open Go.RowKit
set_option linter.unusedVariables false
set_option maxRecDepth 20000

/-- The flag of a row's cell at home: moved, where a stub tells it. -/
def flgU (pn sn hp hs : Nat) : Int := if hp = pn ∧ hs = sn then 0 else 2
def rowQ (z : Spt) (t k v : Int) (s : ByteArray) : Bool := (z.c.t == t) && (z.c.k == k) && (z.c.v == v) && decide (z.c.s = s)
def homP (z : Spt) : Nat × Nat := if z.c.f = 1 then (z.c.p.toNat, z.c.l.toNat) else (z.p.toNat, z.s.toNat)
/-- A row that is found, turned into another one. -/
def uzR (ps : List (List Int)) (z : Spt) (t k v : Int) (s : ByteArray) : St × Bool :=
  if rowQ z t k v s = true then (([], ps), true)
  else upS ([], ps) z.p.toNat z.s.toNat (homP z).1 (homP z).2 (cellBytes (flgU z.p.toNat z.s.toNat (homP z).1 (homP z).2) t k v s) (cellBytes 2 t k v s)
def uzQ (ps : List (List Int)) (z : Spt) (t k v : Int) (s : ByteArray) : Int := if (uzR ps z t k v s).2 = true then 0 else 9
def uzE (ps : List (List Int)) (z : Spt) (t k v : Int) (s : ByteArray) : List (Int × List Int) := if (uzR ps z t k v s).2 = true then (uzR ps z t k v s).1.1 else []
def uzP (ps : List (List Int)) (z : Spt) (t k v : Int) (s : ByteArray) : List (List Int) := if (uzR ps z t k v s).2 = true then (uzR ps z t k v s).1.2 else []
theorem uz_true {ps : List (List Int)} {z : Spt} {t k v : Int} {s : ByteArray} {st : St} (h : uzR ps z t k v s = (st, true)) : uzQ ps z t k v s = 0 ∧ uzE ps z t k v s = st.1 ∧ uzP ps z t k v s = st.2 := by unfold uzQ uzE uzP; rw [h]; exact ⟨rfl, rfl, rfl⟩
theorem uz_false {ps : List (List Int)} {z : Spt} {t k v : Int} {s : ByteArray} {st : St} (h : uzR ps z t k v s = (st, false)) : uzQ ps z t k v s = 9 ∧ uzE ps z t k v s = [] ∧ uzP ps z t k v s = [] := by unfold uzQ uzE uzP; rw [h]; exact ⟨rfl, rfl, rfl⟩
def uQ (ps : List (List Int)) (t k v : Int) (s : ByteArray) : Int := if viewQ ps = 0 then (if faultI t k v s = 0 then ((deZ ps t k).map fun z => uzQ ps z t k v s).getD 4 else faultI t k v s) else viewQ ps
def uE (ps : List (List Int)) (t k v : Int) (s : ByteArray) : List (Int × List Int) := if viewQ ps = 0 then (if faultI t k v s = 0 then ((deZ ps t k).map fun z => uzE ps z t k v s).getD [] else []) else []
def uP (ps : List (List Int)) (t k v : Int) (s : ByteArray) : List (List Int) := if viewQ ps = 0 then (if faultI t k v s = 0 then ((deZ ps t k).map fun z => uzP ps z t k v s).getD [] else []) else []
section
variable {ps : List (List Int)} {t k v : Int} {s : ByteArray}
theorem u_view (h : viewQ ps ≠ 0) : uQ ps t k v s = viewQ ps ∧ uE ps t k v s = [] ∧ uP ps t k v s = [] := by
  unfold uQ uE uP; rw [if_neg h, if_neg h, if_neg h]; exact ⟨rfl, rfl, rfl⟩
theorem u_fault (h : viewQ ps = 0) (h2 : faultI t k v s ≠ 0) : uQ ps t k v s = faultI t k v s ∧ uE ps t k v s = [] ∧ uP ps t k v s = [] := by
  unfold uQ uE uP; rw [if_pos h, if_pos h, if_pos h, if_neg h2, if_neg h2, if_neg h2]; exact ⟨rfl, rfl, rfl⟩
theorem u_none (h : viewQ ps = 0) (h2 : faultI t k v s = 0) (h3 : deZ ps t k = none) : uQ ps t k v s = 4 ∧ uE ps t k v s = [] ∧ uP ps t k v s = [] := by
  unfold uQ uE uP; rw [if_pos h, if_pos h, if_pos h, if_pos h2, if_pos h2, if_pos h2, h3]; exact ⟨rfl, rfl, rfl⟩
theorem u_some (h : viewQ ps = 0) (h2 : faultI t k v s = 0) {z : Spt} (h3 : deZ ps t k = some z) : uQ ps t k v s = uzQ ps z t k v s ∧ uE ps t k v s = uzE ps z t k v s ∧ uP ps t k v s = uzP ps z t k v s := by
  unfold uQ uE uP; rw [if_pos h, if_pos h, if_pos h, if_pos h2, if_pos h2, if_pos h2, h3]; exact ⟨rfl, rfl, rfl⟩
end
/-- Two rows compared. -/
theorem eq_row (a b c d e f : Int) (x y : ByteArray) (W : World) : (binOp .eql 26 (.agg #[.int .i64 a, .int .i64 b, .int .i64 c, .string x]) (.agg #[.int .i64 d, .int .i64 e, .int .i64 f, .string y])).run Tryz.prog W = .ok (.bool ((a == d) && (b == e) && (c == f) && decide (x = y))) W := by
  by_cases h1 : a = d
  · by_cases h2 : b = e
    · by_cases h3 : c = f
      · by_cases h4 : x = y
        · simp [go_sem, h1, h2, h3, h4]
        · have d : ¬ x.toList = y.toList := fun h => h4 (by rw [ByteArray.toList_eq, ByteArray.toList_eq] at h; exact ByteArray.ext (Array.toList_inj.1 h))
          simp [go_sem, h1, h2, h3, h4, d]
      · simp [go_sem, h1, h2, h3]
    · simp [go_sem, h1, h2]
  · simp [go_sem, h1]
theorem find_none4 {ps : List (List Int)} (hp : PgOk ps) {t k : Int} (hv : viewQ ps = 0) (hi : (inR t 0 3 && inR k 1 99) = true) (hz : deZ ps t k = none) : findR ps t k = rp 4 := by
  have hh := hz
  unfold deZ at hh
  rw [if_pos hv, if_pos hi] at hh
  unfold findR
  rw [if_pos hv, if_pos hi, fnd_fndS hp, allL_spots (view_zero hv).2.1, hh]
  rfl
/-- Where the cell of a found row stands. -/
theorem FndAt.homU {ps : List (List Int)} {z : Spt} {pn sn : Nat} {zs : List Int} (h : FndAt ps z pn sn zs) : ∃ hp hs ys, z.p.toNat = pn ∧ z.s.toNat = sn ∧ homP z = (hp, hs) ∧ homV (unp (cellOf zs sn)) pn sn = .agg #[.int .i64 hp, .int .i64 hs] ∧ CelIn ps hp hs ys ∧ (z.c.f = 1 → z.c.p = (hp : Nat) ∧ z.c.l = (hs : Nat) ∧ ¬ (hp = pn ∧ hs = sn)) ∧ (z.c.f = 0 → hp = pn ∧ hs = sn ∧ ys = zs) := by
  have e1 : z.p.toNat = pn := by rw [h.p]; simp
  have e2 : z.s.toNat = sn := by rw [h.s]; simp
  rcases h.f2 with hf | hf
  · refine ⟨pn, sn, zs, e1, e2, ?_, ?_, h.c, fun h1 => ?_, fun _ => ⟨rfl, rfl, rfl⟩⟩
    · unfold homP; rw [if_neg (by omega), e1, e2]
    · unfold homV; rw [h.f, if_neg (by omega)]
    · omega
  · obtain ⟨pm, sm, ys, hc, e3, e4, hn⟩ := h.stub hf
    refine ⟨pm, sm, ys, e1, e2, ?_, ?_, hc, fun _ => ⟨e3, e4, hn⟩, fun h1 => ?_⟩
    · unfold homP; rw [if_pos hf, e3, e4]; simp
    · unfold homV; rw [h.f, if_pos hf, (h.tp hf).1, (h.tp hf).2, e3, e4]
    · omega
theorem CelIn.hasS {ps : List (List Int)} {pn sn : Nat} {zs : List Int} (h : CelIn ps pn sn zs) : HasS zs sn := ⟨((hasC_iff sn).1 h.has).1, ((hasC_iff sn).1 h.has).2⟩


theorem R3X.base {P : Nat → Prop} {B : Nat → Option Obj} {n₀ : Nat} {X : World} {ob : Nat} {es : List (Int × List Int)} {ps : List (List Int)} {V : World} (h : R3X P B n₀ X ob es ps V) : n₀ ≤ V.heap.size := by
  obtain ⟨x1, k1, V1, x2, k2, V2, h⟩ := h
  exact h.sz
set_option maxHeartbeats 8000000 in
theorem updateRow_any (n₀ : Nat) (X : World) (ob : Nat) (es : List (Int × List Int)) (cur : List (List Int)) (pn sn hp hs : Nat) (t k v : Int) (s : ByteArray) (zs ys : List Int) (w : World) (hS : R3 n₀ X ob es cur w) (hG : GdS (es, cur) 10) (hC : CelIn cur pn sn zs) (hV : homV (unp (cellOf zs sn)) pn sn = .agg #[.int .i64 hp, .int .i64 hs]) (hy : cur[hp]? = some ys) (hys : HasS ys hs) (hf : faultI t k v s = 0) :
    Calls Tryz.prog 67 #[.pointer (some ⟨ob, 0, none⟩), .agg #[.int .i64 pn, .int .i64 sn], .agg #[.int .i64 t, .int .i64 k, .int .i64 v, .string s]] w fun e w' => UpPost n₀ X ob (upS (es, cur) pn sn hp hs (cellBytes (flgU pn sn hp hs) t k v s) (cellBytes 2 t k v s)) e w' := by
  obtain ⟨⟨t0, t1⟩, ⟨k0, k1⟩, ⟨v0, v1⟩, hs8⟩ := fault_bounds hf
  have hz := hC.at'
  have hzs : HasS zs sn := ⟨((hasC_iff sn).1 hC.has).1, ((hasC_iff sn).1 hC.has).2⟩
  have hel : es.length ≤ 900 := by have := hG.e; dsimp only at this; omega
  have hp12 : hp < 12 := by have h1 := (List.getElem?_eq_some_iff.1 hy).1; have h2 := hG.l; dsimp only at h2; omega
  have HS : Hid (R3 n₀ X ob es cur w) := hS
  have HV : Hid (homV (unp (cellOf zs sn)) pn sn = .agg #[.int .i64 hp, .int .i64 hs]) := hV
  have HCc : Hid (CelIn cur pn sn zs) := hC
  have hneq : ∀ W', (binOp .neq 84 (.agg #[.int .i64 (hp : Int), .int .i64 (hs : Int)]) (.agg #[.int .i64 (pn : Int), .int .i64 (sn : Int)])).run Tryz.prog W' = .ok (.bool (!(((hp : Nat) : Int) == ((pn : Nat) : Int) && ((hs : Nat) : Int) == ((sn : Nat) : Int)))) W' := fun W' => neq_place _ _ _ _ W'
  obtain ⟨fl, hfl⟩ : ∃ fl, flgU pn sn hp hs = fl := ⟨_, rfl⟩
  rw [hfl]
  have HFl : Hid (flgU pn sn hp hs = fl) := hfl
  clear hS hV hC hfl
  go_enter Tryz.func67, Tryz.ntmps67
  go_upto_region 1 with (fail)
  generalize hY : World.alloc _ _ = Y
  have gY : Below w.heap.size w Y := by rw [← hY]; go_grown
  have hYs : Y.heap.size = w.heap.size + 2 := by rw [← hY]; simp
  have a0 : Y.cell? ⟨w.heap.size, 0, none⟩ = some (.int .i64 pn) := by rw [← hY]; simp [go_sem]
  have a1 : Y.cell? ⟨w.heap.size, 1, none⟩ = some (.int .i64 sn) := by rw [← hY]; simp [go_sem]
  have hrow : RowAt Y (w.heap.size + 1) t k v s := by rw [← hY]; exact ⟨by simp [go_sem], by simp [go_sem], by simp [go_sem], by simp [go_sem]⟩
  clear hY
  obtain ⟨rb, hrb⟩ : ∃ rb, w.heap.size + 1 = rb := ⟨_, rfl⟩
  simp only [hrb] at hrow ⊢
  obtain ⟨ab, hab⟩ : ∃ ab, w.heap.size = ab := ⟨_, rfl⟩
  have hwa : w.heap.size ≤ ab := by omega
  have hwr : w.heap.size ≤ rb := by omega
  have haY : ab < Y.heap.size := by omega
  have hrY : rb < Y.heap.size := by omega
  rw [hab] at a0 a1
  simp only [hab]
  obtain ⟨x1, k1', V1, x2, k2', V2, hSw⟩ := HS.out
  have hho := homeOf_any n₀ X ob es cur x1 k1' V1 x2 k2' V2 pn sn zs Y (hSw.below gY) HCc.out
  rw [HV.out] at hho
  clear hSw hab hrb
  go_upto_region 2 with (go_at_call 70; refine hho.mono ?_; rintro e w1 ⟨rfl, g1⟩; clear hho)
  generalize hU : World.alloc w1 _ = U
  have gU1 : Below w1.heap.size w1 U := by rw [← hU]; go_grown
  have m0 : U.cell? ⟨w1.heap.size, 0, none⟩ = some (.int .i64 hp) := by rw [← hU]; simp [go_sem]
  have m1 : U.cell? ⟨w1.heap.size, 1, none⟩ = some (.int .i64 hs) := by rw [← hU]; simp [go_sem]
  clear hU
  have gYU : Below Y.heap.size Y U := g1.trans (gU1.mono g1.size)
  have gU : Below w.heap.size w U := gY.trans (gYU.mono gY.size)
  have hmU : w1.heap.size < U.heap.size := World.block_lt_of_cell? U _ m0
  have hmY : Y.heap.size ≤ w1.heap.size := g1.size
  generalize w1.heap.size = mb at m0 m1 hmU hmY ⊢
  have hM : MvC ab mb rb pn sn hp hs t k v s U := ⟨(gYU.cell (p := ⟨ab, 0, none⟩) haY).trans a0, (gYU.cell (p := ⟨ab, 1, none⟩) haY).trans a1, m0, m1, (gYU.cell (p := ⟨rb, 0, none⟩) hrY).trans hrow.1, (gYU.cell (p := ⟨rb, 1, none⟩) hrY).trans hrow.2, (gYU.cell (p := ⟨rb, 2, none⟩) hrY).trans hrow.3, (gYU.cell (p := ⟨rb, 3, none⟩) hrY).trans hrow.4⟩
  have hX : R3X (fun q => q = ab ∨ q = mb ∨ q = rb) (fun q => U.heap[q]?) n₀ X ob es cur U := HS.out.more gU (fun q hq => by have := gYU.size; have := gY.size; omega)
  have HM : Hid (MvC ab mb rb pn sn hp hs t k v s U) := hM
  obtain ⟨q0, q1, q2, q3, _, _, _, _⟩ := hM
  clear a0 a1 m0 m1 hrow gU1 gYU gU g1 gY
  by_cases hsame : hp = pn ∧ hs = sn
  · have hnq : (!(((hp : Nat) : Int) == ((pn : Nat) : Int) && ((hs : Nat) : Int) == ((sn : Nat) : Int))) = false := by rw [hsame.1, hsame.2]; simp
    rw [hnq] at hneq
    have hfl : fl = 0 := by rw [← HFl.out]; unfold flgU; rw [if_pos hsame]
    subst hfl
    clear hsame hnq
    go_upto_region 4 with (fail)
    have hM := HM.out
    clear q0 q1 q2 q3 HM hneq
    have gD : Below U.heap.size U U.drew := (Below.refl _ U).drew
    refine wp_region_held_drew (S := MvC ab mb rb pn sn hp hs t k v s) (by kernel_rfl) (hM.up gD) (fun hHeld => ?_)
    have hX := (hX.below' gD).now'
    generalize U.drew = D0 at hHeld hX ⊢
    clear hM gD
    refine tkH (i := 0) (v := ?v1) rfl (Or.inl ⟨by kernel_rfl, ?h1⟩) hHeld ?_
    case h1 => intro u hSw; clear hSw; go_simp; try with_reducible rfl
    try simp only [Act.put, tdy]
    refine tkH (i := 1) (v := ?v2) rfl (Or.inl ⟨by kernel_rfl, ?h2⟩) hHeld ?_
    case h2 => intro u hSw; (obtain ⟨y0, y1, y2, y3, y4, y5, y6, y7⟩ := hSw); go_simp; try with_reducible rfl
    try simp only [Act.put, tdy]
    refine tkH (i := 2) (v := ?v3) rfl (Or.inl ⟨by kernel_rfl, ?h3⟩) hHeld ?_
    case h3 => intro u hSw; clear hSw; go_simp; try with_reducible rfl
    try simp only [Act.put, tdy]
    refine tkH (i := 3) (v := ?v4) rfl (Or.inl ⟨by kernel_rfl, ?h4⟩) hHeld ?_
    case h4 => intro u hSw; (obtain ⟨y0, y1, y2, y3, y4, y5, y6, y7⟩ := hSw); go_simp; try with_reducible rfl
    try simp only [Act.put, tdy]
    have hcc := rowCell_any 0 t k v s D0 (by omega) (by omega) t0 t1 k0 k1 v0 v1 hs8
    have HLen : Hid ((cellBytes 0 t k v s).length = 6 + s.size) := cellB_len 0 t k v s
    have HBd : Hid (∀ z ∈ cellBytes 0 t k v s, 0 ≤ z ∧ z ≤ 255) := cellB_bd (f := 0) (by omega) (by omega) t0 t1 k0 k1 v0 v1 hs8
    refine wpAnyH_ready (rs := [4]) (by kernel_rfl) (by simp) ?_
    refine AllReadyH.cons rfl (fun K hK => ?_) AllReadyH.nil
    go_simp
    go_wp2_with (go_at_call 54; refine hcc.mono ?_; rintro e Z ⟨g, cc, rfl, gg, hBy⟩)
    obtain ⟨hg1, hg2⟩ := hBy.at' (by rw [HLen.out]; omega)
    have hX := hX.ext gg hg1 hg2
    refine hK.out _ _ (hHeld.up gg) (fun hHeld => ?_)
    clear hK K hcc gg hg1 hg2
    try simp only [Act.put, tdy]
    have hC := cx_at (P := fun q => (fun q => q = ab ∨ q = mb ∨ q = rb) q ∨ q = g) (g := g) (.inr rfl) hBy HLen.out (by omega) (by omega) HBd.out
    have htc := turnCell_any _ _ n₀ X ob es cur hp hs g 0 (6 + s.size) cc ys (cellBytes 0 t k v s) Z hX hG.p hG.l hel hy hys hC
    obtain ⟨⟨⟨es1, cur1⟩, bo⟩, hR⟩ : ∃ R, stS (es, cur) hp hs ys (cellBytes 0 t k v s) = R := ⟨_, rfl⟩
    rw [hR] at htc
    have HTc : Hid (Calls Tryz.prog 124 #[.pointer (some ⟨ob, 0, none⟩), .agg #[.int .i64 hp, .int .i64 hs], .slice (some ⟨g, 0, none⟩) (6 + s.size) cc] Z fun e w' => TsPost (fun q => (fun q => q = ab ∨ q = mb ∨ q = rb) q ∨ q = g) (fun q => Z.heap[q]?) n₀ X ob ((es1, cur1), bo) e w') := htc
    have HR : Hid (stS (es, cur) hp hs ys (cellBytes 0 t k v s) = ((es1, cur1), bo)) := hR
    have hG1 : GdS (es1, cur1) 12 := by
      have h1 := hG.st (p := hp) (cs := cellBytes 0 t k v s) hp12 (hG.p.at hy) hys HBd.out (by rw [HLen.out]; omega)
      rw [hR] at h1
      exact h1
    have hK1 : Keep (es, cur) (es1, cur1) := by
      have h1 := Keep.st (s := (es, cur)) (cs := cellBytes 0 t k v s) (hG.p.at hy) hy hys (by rw [HLen.out]; omega)
      rw [hR] at h1
      exact h1
    clear htc hC hR
    refine wpAnyH_ready (rs := [5]) (by kernel_rfl) (by simp) ?_
    refine AllReadyH.cons rfl (fun K hK => ?_) AllReadyH.nil
    go_simp
    go_wp2_with (go_at_call 124; refine HTc.out.mono ?_; rintro e W ⟨rfl, hX1⟩)
    have hk1 := hX1.blk
    refine hK.out _ _ (hHeld.keep (hk1 ab (.inl (.inl rfl))) (hk1 mb (.inl (.inr (.inl rfl)))) (hk1 rb (.inl (.inr (.inr rfl))))) (fun hHeld => ?_)
    clear hK K HTc hk1 hBy
    try dsimp only at hX1
    try simp only [Act.put, tdy]
    cases bo with
    | true =>
      refine tkH (i := 6) (v := ?v5) rfl (Or.inl ⟨by kernel_rfl, ?h5⟩) hHeld ?_
      case h5 => intro u hSw; clear hSw; go_simp; try with_reducible rfl
      try simp only [Act.put, tdy]
      refine tkH (i := 7) (v := undef) rfl (Or.inr ⟨by kernel_rfl, rfl⟩) hHeld ?_
      try simp only [Act.put, tdy]
      refine tkH (i := 8) (v := undef) rfl (Or.inr ⟨by kernel_rfl, rfl⟩) hHeld ?_
      try simp only [Act.put, tdy]
      refine tkH (i := 9) (v := undef) rfl (Or.inr ⟨by kernel_rfl, rfl⟩) hHeld ?_
      try simp only [Act.put, tdy]
      refine tkH (i := 10) (v := undef) rfl (Or.inr ⟨by kernel_rfl, rfl⟩) hHeld ?_
      try simp only [Act.put, tdy]
      refine tkH (i := 11) (v := undef) rfl (Or.inr ⟨by kernel_rfl, rfl⟩) hHeld ?_
      try simp only [Act.put, tdy]
      refine tkH (i := 12) (v := ?v6) rfl (Or.inl ⟨by kernel_rfl, ?h6⟩) hHeld ?_
      case h6 => intro u hSw; clear hSw; go_simp; try with_reducible rfl
      try simp only [Act.put, tdy]
      refine tkH (i := 13) (v := ?v7) rfl (Or.inl ⟨by kernel_rfl, ?h7⟩) hHeld ?_
      case h7 => intro u hSw; clear hSw; go_simp; try with_reducible rfl
      try simp only [Act.put, tdy]
      refine wpAnyH_done (by kernel_rfl) ?_ _
      have HE : Hid (upS (es, cur) pn sn hp hs (cellBytes 0 t k v s) (cellBytes 2 t k v s) = ((es1, cur1), true)) := up_true (s := (es, cur)) hy HR.out
      clear hX hHeld
      go_wp2_with fail
      go_ret
      rw [HE.out]
      exact ⟨rfl, hX1.plain⟩
    | false =>
      refine tkH (i := 6) (v := ?v8) rfl (Or.inl ⟨by kernel_rfl, ?h8⟩) hHeld ?_
      case h8 => intro u hSw; clear hSw; go_simp; try with_reducible rfl
      try simp only [Act.put, tdy]
      refine tkH (i := 7) (v := ?v9) rfl (Or.inl ⟨by kernel_rfl, ?h9⟩) hHeld ?_
      case h9 => intro u hSw; clear hSw; go_simp; try with_reducible rfl
      try simp only [Act.put, tdy]
      refine tkH (i := 8) (v := ?v10) rfl (Or.inl ⟨by kernel_rfl, ?h10⟩) hHeld ?_
      case h10 => intro u hSw; (obtain ⟨y0, y1, y2, y3, y4, y5, y6, y7⟩ := hSw); go_simp; try with_reducible rfl
      try simp only [Act.put, tdy]
      refine tkH (i := 9) (v := ?v11) rfl (Or.inl ⟨by kernel_rfl, ?h11⟩) hHeld ?_
      case h11 => intro u hSw; (obtain ⟨y0, y1, y2, y3, y4, y5, y6, y7⟩ := hSw); go_simp; try with_reducible rfl
      try simp only [Act.put, tdy]
      refine tkH (i := 10) (v := ?v12) rfl (Or.inl ⟨by kernel_rfl, ?h12⟩) hHeld ?_
      case h12 => intro u hSw; (obtain ⟨y0, y1, y2, y3, y4, y5, y6, y7⟩ := hSw); go_simp; try with_reducible rfl
      try simp only [Act.put, tdy]
      obtain ⟨zs1, hz1, hzs1⟩ := hK1 pn sn zs hz hzs
      obtain ⟨ys1, hy1, hys1⟩ := hK1 hp hs ys hy hys
      try dsimp only at hz1 hy1
      have hX1 := hX1.now'
      have hmv := moveRow_any _ _ n₀ X ob es1 cur1 pn sn hp hs t k v s zs1 ys1 W hX1 (hG1.mono (by omega)) hz1 hzs1 hy1 hys1 hf (hX1.base)
      obtain ⟨R2, hR2⟩ : ∃ R, mwS (es1, cur1) pn sn hp hs (cellBytes 2 t k v s) = R := ⟨_, rfl⟩
      rw [hR2] at hmv
      have HMv : Hid (Calls Tryz.prog 125 #[.pointer (some ⟨ob, 0, none⟩), .agg #[.int .i64 pn, .int .i64 sn], .agg #[.int .i64 hp, .int .i64 hs], .agg #[.int .i64 t, .int .i64 k, .int .i64 v, .string s]] W fun e w' => UpPost n₀ X ob R2 e w' ∧ ∀ q, ((fun q => (fun q => q = ab ∨ q = mb ∨ q = rb) q ∨ q = g) q) → w'.heap[q]? = W.heap[q]?) := hmv
      have HE : Hid (upS (es, cur) pn sn hp hs (cellBytes 0 t k v s) (cellBytes 2 t k v s) = R2) := (up_false (s := (es, cur)) hy HR.out).trans hR2
      clear hmv hR2 hX hX1
      refine wpAnyH_ready (rs := [11]) (by kernel_rfl) (by simp) ?_
      refine AllReadyH.cons rfl (fun K hK => ?_) AllReadyH.nil
      go_simp
      go_wp2_with (go_at_call 125; refine HMv.out.mono ?_; rintro e W4 ⟨⟨rfl, hX4⟩, hk4⟩)
      refine hK.out _ _ (hHeld.keep (hk4 ab (.inl (.inl rfl))) (hk4 mb (.inl (.inr (.inl rfl)))) (hk4 rb (.inl (.inr (.inr rfl))))) (fun hHeld => ?_)
      clear hK K HMv hk4
      try simp only [Act.put, tdy]
      refine tkH (i := 12) (v := ?v13) rfl (Or.inl ⟨by kernel_rfl, ?h13⟩) hHeld ?_
      case h13 => intro u hSw; clear hSw; go_simp; try with_reducible rfl
      try simp only [Act.put, tdy]
      refine tkH (i := 13) (v := ?v14) rfl (Or.inl ⟨by kernel_rfl, ?h14⟩) hHeld ?_
      case h14 => intro u hSw; clear hSw; go_simp; try with_reducible rfl
      try simp only [Act.put, tdy]
      refine wpAnyH_done (by kernel_rfl) ?_ _
      obtain ⟨⟨es4, cur4⟩, bo4⟩ := R2
      clear hHeld
      go_wp2_with fail
      go_ret
      rw [HE.out]
      exact ⟨rfl, hX4⟩
  · have hnq : (!(((hp : Nat) : Int) == ((pn : Nat) : Int) && ((hs : Nat) : Int) == ((sn : Nat) : Int))) = true := by simp; omega
    rw [hnq] at hneq
    have hfl : fl = 2 := by rw [← HFl.out]; unfold flgU; rw [if_neg hsame]
    subst hfl
    clear hsame hnq
    go_upto_region 4 with (fail)
    have hM := HM.out
    clear q0 q1 q2 q3 HM hneq
    have gD : Below U.heap.size U U.drew := (Below.refl _ U).drew
    refine wp_region_held_drew (S := MvC ab mb rb pn sn hp hs t k v s) (by kernel_rfl) (hM.up gD) (fun hHeld => ?_)
    have hX := (hX.below' gD).now'
    generalize U.drew = D0 at hHeld hX ⊢
    clear hM gD
    refine tkH (i := 0) (v := ?v15) rfl (Or.inl ⟨by kernel_rfl, ?h15⟩) hHeld ?_
    case h15 => intro u hSw; clear hSw; go_simp; try with_reducible rfl
    try simp only [Act.put, tdy]
    refine tkH (i := 1) (v := ?v16) rfl (Or.inl ⟨by kernel_rfl, ?h16⟩) hHeld ?_
    case h16 => intro u hSw; (obtain ⟨y0, y1, y2, y3, y4, y5, y6, y7⟩ := hSw); go_simp; try with_reducible rfl
    try simp only [Act.put, tdy]
    refine tkH (i := 2) (v := ?v17) rfl (Or.inl ⟨by kernel_rfl, ?h17⟩) hHeld ?_
    case h17 => intro u hSw; clear hSw; go_simp; try with_reducible rfl
    try simp only [Act.put, tdy]
    refine tkH (i := 3) (v := ?v18) rfl (Or.inl ⟨by kernel_rfl, ?h18⟩) hHeld ?_
    case h18 => intro u hSw; (obtain ⟨y0, y1, y2, y3, y4, y5, y6, y7⟩ := hSw); go_simp; try with_reducible rfl
    try simp only [Act.put, tdy]
    have hcc := rowCell_any 2 t k v s D0 (by omega) (by omega) t0 t1 k0 k1 v0 v1 hs8
    have HLen : Hid ((cellBytes 2 t k v s).length = 6 + s.size) := cellB_len 2 t k v s
    have HBd : Hid (∀ z ∈ cellBytes 2 t k v s, 0 ≤ z ∧ z ≤ 255) := cellB_bd (f := 2) (by omega) (by omega) t0 t1 k0 k1 v0 v1 hs8
    refine wpAnyH_ready (rs := [4]) (by kernel_rfl) (by simp) ?_
    refine AllReadyH.cons rfl (fun K hK => ?_) AllReadyH.nil
    go_simp
    go_wp2_with (go_at_call 54; refine hcc.mono ?_; rintro e Z ⟨g, cc, rfl, gg, hBy⟩)
    obtain ⟨hg1, hg2⟩ := hBy.at' (by rw [HLen.out]; omega)
    have hX := hX.ext gg hg1 hg2
    refine hK.out _ _ (hHeld.up gg) (fun hHeld => ?_)
    clear hK K hcc gg hg1 hg2
    try simp only [Act.put, tdy]
    have hC := cx_at (P := fun q => (fun q => q = ab ∨ q = mb ∨ q = rb) q ∨ q = g) (g := g) (.inr rfl) hBy HLen.out (by omega) (by omega) HBd.out
    have htc := turnCell_any _ _ n₀ X ob es cur hp hs g 0 (6 + s.size) cc ys (cellBytes 2 t k v s) Z hX hG.p hG.l hel hy hys hC
    obtain ⟨⟨⟨es1, cur1⟩, bo⟩, hR⟩ : ∃ R, stS (es, cur) hp hs ys (cellBytes 2 t k v s) = R := ⟨_, rfl⟩
    rw [hR] at htc
    have HTc : Hid (Calls Tryz.prog 124 #[.pointer (some ⟨ob, 0, none⟩), .agg #[.int .i64 hp, .int .i64 hs], .slice (some ⟨g, 0, none⟩) (6 + s.size) cc] Z fun e w' => TsPost (fun q => (fun q => q = ab ∨ q = mb ∨ q = rb) q ∨ q = g) (fun q => Z.heap[q]?) n₀ X ob ((es1, cur1), bo) e w') := htc
    have HR : Hid (stS (es, cur) hp hs ys (cellBytes 2 t k v s) = ((es1, cur1), bo)) := hR
    have hG1 : GdS (es1, cur1) 12 := by
      have h1 := hG.st (p := hp) (cs := cellBytes 2 t k v s) hp12 (hG.p.at hy) hys HBd.out (by rw [HLen.out]; omega)
      rw [hR] at h1
      exact h1
    have hK1 : Keep (es, cur) (es1, cur1) := by
      have h1 := Keep.st (s := (es, cur)) (cs := cellBytes 2 t k v s) (hG.p.at hy) hy hys (by rw [HLen.out]; omega)
      rw [hR] at h1
      exact h1
    clear htc hC hR
    refine wpAnyH_ready (rs := [5]) (by kernel_rfl) (by simp) ?_
    refine AllReadyH.cons rfl (fun K hK => ?_) AllReadyH.nil
    go_simp
    go_wp2_with (go_at_call 124; refine HTc.out.mono ?_; rintro e W ⟨rfl, hX1⟩)
    have hk1 := hX1.blk
    refine hK.out _ _ (hHeld.keep (hk1 ab (.inl (.inl rfl))) (hk1 mb (.inl (.inr (.inl rfl)))) (hk1 rb (.inl (.inr (.inr rfl))))) (fun hHeld => ?_)
    clear hK K HTc hk1 hBy
    try dsimp only at hX1
    try simp only [Act.put, tdy]
    cases bo with
    | true =>
      refine tkH (i := 6) (v := ?v19) rfl (Or.inl ⟨by kernel_rfl, ?h19⟩) hHeld ?_
      case h19 => intro u hSw; clear hSw; go_simp; try with_reducible rfl
      try simp only [Act.put, tdy]
      refine tkH (i := 7) (v := undef) rfl (Or.inr ⟨by kernel_rfl, rfl⟩) hHeld ?_
      try simp only [Act.put, tdy]
      refine tkH (i := 8) (v := undef) rfl (Or.inr ⟨by kernel_rfl, rfl⟩) hHeld ?_
      try simp only [Act.put, tdy]
      refine tkH (i := 9) (v := undef) rfl (Or.inr ⟨by kernel_rfl, rfl⟩) hHeld ?_
      try simp only [Act.put, tdy]
      refine tkH (i := 10) (v := undef) rfl (Or.inr ⟨by kernel_rfl, rfl⟩) hHeld ?_
      try simp only [Act.put, tdy]
      refine tkH (i := 11) (v := undef) rfl (Or.inr ⟨by kernel_rfl, rfl⟩) hHeld ?_
      try simp only [Act.put, tdy]
      refine tkH (i := 12) (v := ?v20) rfl (Or.inl ⟨by kernel_rfl, ?h20⟩) hHeld ?_
      case h20 => intro u hSw; clear hSw; go_simp; try with_reducible rfl
      try simp only [Act.put, tdy]
      refine tkH (i := 13) (v := ?v21) rfl (Or.inl ⟨by kernel_rfl, ?h21⟩) hHeld ?_
      case h21 => intro u hSw; clear hSw; go_simp; try with_reducible rfl
      try simp only [Act.put, tdy]
      refine wpAnyH_done (by kernel_rfl) ?_ _
      have HE : Hid (upS (es, cur) pn sn hp hs (cellBytes 2 t k v s) (cellBytes 2 t k v s) = ((es1, cur1), true)) := up_true (s := (es, cur)) hy HR.out
      clear hX hHeld
      go_wp2_with fail
      go_ret
      rw [HE.out]
      exact ⟨rfl, hX1.plain⟩
    | false =>
      refine tkH (i := 6) (v := ?v22) rfl (Or.inl ⟨by kernel_rfl, ?h22⟩) hHeld ?_
      case h22 => intro u hSw; clear hSw; go_simp; try with_reducible rfl
      try simp only [Act.put, tdy]
      refine tkH (i := 7) (v := ?v23) rfl (Or.inl ⟨by kernel_rfl, ?h23⟩) hHeld ?_
      case h23 => intro u hSw; clear hSw; go_simp; try with_reducible rfl
      try simp only [Act.put, tdy]
      refine tkH (i := 8) (v := ?v24) rfl (Or.inl ⟨by kernel_rfl, ?h24⟩) hHeld ?_
      case h24 => intro u hSw; (obtain ⟨y0, y1, y2, y3, y4, y5, y6, y7⟩ := hSw); go_simp; try with_reducible rfl
      try simp only [Act.put, tdy]
      refine tkH (i := 9) (v := ?v25) rfl (Or.inl ⟨by kernel_rfl, ?h25⟩) hHeld ?_
      case h25 => intro u hSw; (obtain ⟨y0, y1, y2, y3, y4, y5, y6, y7⟩ := hSw); go_simp; try with_reducible rfl
      try simp only [Act.put, tdy]
      refine tkH (i := 10) (v := ?v26) rfl (Or.inl ⟨by kernel_rfl, ?h26⟩) hHeld ?_
      case h26 => intro u hSw; (obtain ⟨y0, y1, y2, y3, y4, y5, y6, y7⟩ := hSw); go_simp; try with_reducible rfl
      try simp only [Act.put, tdy]
      obtain ⟨zs1, hz1, hzs1⟩ := hK1 pn sn zs hz hzs
      obtain ⟨ys1, hy1, hys1⟩ := hK1 hp hs ys hy hys
      try dsimp only at hz1 hy1
      have hX1 := hX1.now'
      have hmv := moveRow_any _ _ n₀ X ob es1 cur1 pn sn hp hs t k v s zs1 ys1 W hX1 (hG1.mono (by omega)) hz1 hzs1 hy1 hys1 hf (hX1.base)
      obtain ⟨R2, hR2⟩ : ∃ R, mwS (es1, cur1) pn sn hp hs (cellBytes 2 t k v s) = R := ⟨_, rfl⟩
      rw [hR2] at hmv
      have HMv : Hid (Calls Tryz.prog 125 #[.pointer (some ⟨ob, 0, none⟩), .agg #[.int .i64 pn, .int .i64 sn], .agg #[.int .i64 hp, .int .i64 hs], .agg #[.int .i64 t, .int .i64 k, .int .i64 v, .string s]] W fun e w' => UpPost n₀ X ob R2 e w' ∧ ∀ q, ((fun q => (fun q => q = ab ∨ q = mb ∨ q = rb) q ∨ q = g) q) → w'.heap[q]? = W.heap[q]?) := hmv
      have HE : Hid (upS (es, cur) pn sn hp hs (cellBytes 2 t k v s) (cellBytes 2 t k v s) = R2) := (up_false (s := (es, cur)) hy HR.out).trans hR2
      clear hmv hR2 hX hX1
      refine wpAnyH_ready (rs := [11]) (by kernel_rfl) (by simp) ?_
      refine AllReadyH.cons rfl (fun K hK => ?_) AllReadyH.nil
      go_simp
      go_wp2_with (go_at_call 125; refine HMv.out.mono ?_; rintro e W4 ⟨⟨rfl, hX4⟩, hk4⟩)
      refine hK.out _ _ (hHeld.keep (hk4 ab (.inl (.inl rfl))) (hk4 mb (.inl (.inr (.inl rfl)))) (hk4 rb (.inl (.inr (.inr rfl))))) (fun hHeld => ?_)
      clear hK K HMv hk4
      try simp only [Act.put, tdy]
      refine tkH (i := 12) (v := ?v27) rfl (Or.inl ⟨by kernel_rfl, ?h27⟩) hHeld ?_
      case h27 => intro u hSw; clear hSw; go_simp; try with_reducible rfl
      try simp only [Act.put, tdy]
      refine tkH (i := 13) (v := ?v28) rfl (Or.inl ⟨by kernel_rfl, ?h28⟩) hHeld ?_
      case h28 => intro u hSw; clear hSw; go_simp; try with_reducible rfl
      try simp only [Act.put, tdy]
      refine wpAnyH_done (by kernel_rfl) ?_ _
      obtain ⟨⟨es4, cur4⟩, bo4⟩ := R2
      clear hHeld
      go_wp2_with fail
      go_ret
      rw [HE.out]
      exact ⟨rfl, hX4⟩

end Go.Proofs.YtnfolgoloaeanaaGreat

