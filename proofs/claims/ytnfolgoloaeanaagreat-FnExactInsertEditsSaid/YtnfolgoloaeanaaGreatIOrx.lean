/-
  cmp.Or of two codes.
-/
import Derived.Test.YtnfolgoloaeanaaGreatIRowC
import Derived.LoopN
import Derived.Test.YtnfolgoloaeanaaGreatIDeb
import Derived.Test.YtnfolgoloaeanaaGreatIIpl
import Derived.Test.YtnfolgoloaeanaaGreatIPgs
import Derived.Test.YtnfolgoloaeanaaGreatIMfa
import Derived.Deep.SlicePairs
import Derived.OpenShut
import Derived.ProofKit

namespace Go.Proofs.YtnfolgoloaeanaaGreat
open Go.RowKit
set_option linter.unusedVariables false

def orC (x y : Int) : Int := if x = 0 then y else x
set_option maxHeartbeats 400000 in
theorem or64_any (b : Nat) (x y : Int) (w : World) (h0 : w.cell? ⟨b, 0, none⟩ = some (.int .i64 x)) (h1 : w.cell? ⟨b, 1, none⟩ = some (.int .i64 y)) :
    Calls Tryz.prog 49 #[.slice (some ⟨b, 0, none⟩) 2 2] w fun e w' => e = .returned (.int .i64 (orC x y)) ∧ w' = w := by
  by_cases hx : x = 0
  · subst hx
    by_cases hy : y = 0
    · subst hy
      have e : orC 0 0 = 0 := rfl
      rw [e]
      clear e
      go_enter Tryz.func49, Tryz.ntmps49
      go_wp2_with fail
      refine wp_loop_rounds 3 ?_
      rw [rounds_succ]
      go_wp2_with fail
      rw [rounds_succ]
      go_wp2_with fail
      rw [rounds_succ]
      go_wp2_with fail
      go_ret
      exact ⟨rfl, rfl⟩
    · have e : orC 0 y = y := rfl
      rw [e]
      clear e
      go_enter Tryz.func49, Tryz.ntmps49
      go_wp2_with fail
      refine wp_loop_rounds 3 ?_
      rw [rounds_succ]
      go_wp2_with fail
      rw [rounds_succ]
      go_wp2_with fail
      go_ret
      exact ⟨rfl, rfl⟩
  · have e : orC x y = x := by unfold orC; simp [hx]
    rw [e]
    clear e
    go_enter Tryz.func49, Tryz.ntmps49
    go_wp2_with fail
    refine wp_loop_rounds 3 ?_
    rw [rounds_succ]
    go_wp2_with fail
    go_ret
    exact ⟨rfl, rfl⟩

theorem orC_zero {x y : Int} : orC x y = 0 ↔ x = 0 ∧ y = 0 := by
  unfold orC
  split
  · rename_i h; exact ⟨fun e => ⟨h, e⟩, fun e => e.2⟩
  · rename_i h; exact ⟨fun e => absurd e h, fun e => absurd e.1 h⟩

end Go.Proofs.YtnfolgoloaeanaaGreat

/-
  The program's InsertEdits.
-/
namespace Go.Proofs.YtnfolgoloaeanaaGreat
open Go.RowKit
set_option linter.unusedVariables false
set_option maxRecDepth 20000

set_option maxHeartbeats 1000000 in
theorem answer_full (ob : Nat) (w : World) :
    Calls Tryz.prog 55 #[.pointer (some ⟨ob, 0, none⟩), .bool false] w fun e w' => e = .returned (.agg #[.int .i64 9, .slice none 0 0, .slice none 0 0]) ∧ Below w.heap.size w w' := by
  go_enter Tryz.func55, Tryz.ntmps55
  go_wp2
  refine bodyPost_ret (v := .agg #[.int .i64 9, .slice none 0 0, .slice none 0 0]) (by simp [results, Tryz.results55, go_sem]) rfl ?_
  exact ⟨rfl, by go_grown⟩

structure IsS (Y : World) (b : Nat) (t k v : Int) (s : ByteArray) (V : World) : Prop where
  c : RowAt V b t k v s
  g : Below Y.heap.size Y V
theorem IsS.up {Y : World} {b : Nat} {t k v : Int} {s : ByteArray} {V V' : World} (h : IsS Y b t k v s V) (hb : Below V.heap.size V V') : IsS Y b t k v s V' :=
  ⟨rowAt_below hb (World.block_lt_of_cell? V _ h.c.1) h.c, h.g.trans (hb.mono h.g.size)⟩

set_option maxHeartbeats 4000000 in
theorem implInsertEdits_any (a : Option Addr) (ps : List (List Int)) (n c : Nat) (t k v : Int) (s : ByteArray) (w : World) (hn : ps.length = n) (hm : n ≤ 1048576) (hp : PgOk ps) (hr : PgRdN w a ps) (hrd : PgRead w a ps) (hs : s.size ≤ maxLen) :
    Calls Tryz.prog 12 #[.slice a n c, .agg #[.int .i64 t, .int .i64 k, .int .i64 v, .string s]] w fun e w' => AePost (isQ ps t k v s) (isE ps t k v s) (isP ps t k v s) w e w' := by
  have HN : Hid (ps.length = n) := hn
  have HRn : Hid (PgRdN w a ps) := hr
  have HRd : Hid (PgRead w a ps) := hrd
  have ff0 : ∀ (q p l t k v : Int) (s : ByteArray) (W : World), (Instr.field 38 (.agg #[.int .i64 q, .int .i64 p, .int .i64 l, .int .i64 t, .int .i64 k, .int .i64 v, .string s]) 0).run Tryz.prog W = .ok (.int .i64 q) W := fun _ _ _ _ _ _ _ _ => by kernel_rfl
  clear hn hr hrd
  go_enter Tryz.func12, Tryz.ntmps12
  go_upto_region 1 with (fail)
  generalize hY : World.alloc _ _ = Y
  have gY : Below w.heap.size w Y := by rw [← hY]; go_grown
  have hYs : Y.heap.size = w.heap.size + 2 := by rw [← hY]; simp
  have hrow : RowC Y w.heap.size 0 ⟨t, k, v, s⟩ := by rw [← hY]; exact ⟨by simp [go_sem], by simp [go_sem], by simp [go_sem], by simp [go_sem]⟩
  have hO : Rs3 Y (w.heap.size + 1) := by rw [← hY]; exact ⟨by simp [go_sem], by simp [go_sem], by simp [go_sem], by simp [go_sem], by simp [go_sem], by simp [go_sem]⟩
  clear hY
  obtain ⟨rb, hrb⟩ : ∃ rb, w.heap.size + 1 = rb := ⟨_, rfl⟩
  simp only [hrb] at hO ⊢
  have hrw : w.heap.size < rb := by omega
  have hry : rb < Y.heap.size := by omega
  have hby : w.heap.size < Y.heap.size := by omega
  clear hrb hYs
  have HO : Hid (∀ V, Below Y.heap.size Y V → Rs3 V rb) := fun V hV => hO.below hV hry
  have HRw : Hid (∀ V, Below Y.heap.size Y V → RowAt V w.heap.size t k v s) := fun V hV => (hrow.below hV hby).at0
  have HG : Hid (∀ V, Below Y.heap.size Y V → Below w.heap.size w V) := fun V hV => gY.trans (hV.mono gY.size)
  have HPf : Hid (∀ V, Below Y.heap.size Y V → Calls Tryz.prog 50 #[.slice a n c] V fun e w' => e = .returned (.int .i64 (viewQ ps)) ∧ Below V.heap.size V w') := fun V hV => implPagesFault_any a ps n c V HN.out (by omega) hp (HRd.out.below (HG.out _ hV) (Nat.le_refl _))
  obtain ⟨qv, hqv⟩ : ∃ q, viewQ ps = q := ⟨_, rfl⟩
  obtain ⟨qf, hqf⟩ : ∃ q, faultI t k v s = q := ⟨_, rfl⟩
  have HRf : Hid (∀ V : World, Calls Tryz.prog 51 #[.agg #[.int .i64 t, .int .i64 k, .int .i64 v, .string s]] V fun e w' => e = .returned (.int .i64 qf) ∧ Below V.heap.size V w') := fun V => by rw [← hqf]; exact implRowFault_any t k v s V hs
  rw [hqv] at HPf
  have HQv : Hid (viewQ ps = qv) := hqv
  have HQf : Hid (faultI t k v s = qf) := hqf
  have H : IsS Y w.heap.size t k v s Y.drew := ⟨HRw.out _ (Below.refl _ Y).drew, (Below.refl _ Y).drew⟩
  clear hrow hO gY hqv hqf
  refine wp_region_held_drew (S := IsS Y w.heap.size t k v s) (by kernel_rfl) H (fun hHeld => ?_)
  generalize Y.drew = D at hHeld ⊢
  clear H
  refine wpAnyH_take (i := 0) (v := ?v1) rfl (by kernel_rfl) (by kernel_rfl) (by kernel_rfl) (fun _ _ _ h => h) (Or.inl ⟨by kernel_rfl, ?h1⟩) hHeld ?_
  case h1 => intro u hSw; clear hSw; go_simp; try with_reducible rfl
  try simp only [List.getElem_toArray]
  try simp only [List.getElem_cons_succ]
  try simp only [List.getElem_cons_zero]
  try simp only [Act.put]
  try simp only [List.setIfInBounds_toArray]
  try simp only [List.set]
  refine wpAnyH_take (i := 2) (v := ?v2) rfl (by kernel_rfl) (by kernel_rfl) (by kernel_rfl) (fun _ _ _ h => h) (Or.inl ⟨by kernel_rfl, ?h2⟩) hHeld ?_
  case h2 => intro u hSw; (obtain ⟨z0, z1, z2, z3⟩ := hSw.c); clear hSw; go_simp; try with_reducible rfl
  try simp only [List.getElem_toArray]
  try simp only [List.getElem_cons_succ]
  try simp only [List.getElem_cons_zero]
  try simp only [Act.put]
  try simp only [List.setIfInBounds_toArray]
  try simp only [List.set]
  refine wpAnyH_ready (rs := [1]) (by kernel_rfl) (by simp) ?_
  refine AllReadyH.cons rfl (fun K hK => ?_) AllReadyH.nil
  go_simp
  go_wp2_with (go_at_call 50; refine (HPf.out _ hHeld.g).mono ?_; rintro e D1 ⟨rfl, gb⟩)
  refine hK.out _ _ (hHeld.up gb) (fun hHeld => ?_)
  clear hK K
  clear gb
  try simp only [Act.put]
  try simp only [List.setIfInBounds_toArray]
  try simp only [List.set]
  refine wpAnyH_ready (rs := [3]) (by kernel_rfl) (by simp) ?_
  refine AllReadyH.cons rfl (fun K hK => ?_) AllReadyH.nil
  go_simp
  go_wp2_with (go_at_call 51; refine (HRf.out _).mono ?_; rintro e D2 ⟨rfl, gb⟩)
  refine hK.out _ _ (hHeld.up gb) (fun hHeld => ?_)
  clear hK K
  clear gb
  try simp only [Act.put]
  try simp only [List.setIfInBounds_toArray]
  try simp only [List.set]
  refine wpAnyH_ready (rs := [4]) (by kernel_rfl) (by simp) ?_
  refine AllReadyH.cons rfl (fun K hK => ?_) AllReadyH.nil
  go_simp
  go_wp2_with fail
  refine hK.out _ _ (hHeld.up (by go_grown)) (fun hHeld => ?_)
  clear hK K
  try simp only [Act.put]
  try simp only [List.setIfInBounds_toArray]
  try simp only [List.set]
  refine wpAnyH_ready (rs := [5]) (by kernel_rfl) (by simp) ?_
  refine AllReadyH.cons rfl (fun K hK => ?_) AllReadyH.nil
  go_simp
  go_wp2_with (go_at_call 49; refine (or64_any _ qv qf _ (by simp [go_sem]) (by simp [go_sem])).mono ?_; rintro e D3 ⟨rfl, rfl⟩)
  refine hK.out _ _ (hHeld) (fun hHeld => ?_)
  clear hK K
  try simp only [Act.put]
  try simp only [List.setIfInBounds_toArray]
  try simp only [List.set]
  refine wpAnyH_take (i := 6) (v := ?v3) rfl (by kernel_rfl) (by kernel_rfl) (by kernel_rfl) (fun _ _ _ h => h) (Or.inl ⟨by kernel_rfl, ?h3⟩) hHeld ?_
  case h3 => intro u hSw; clear hSw; go_simp; try with_reducible rfl
  try simp only [List.getElem_toArray]
  try simp only [List.getElem_cons_succ]
  try simp only [List.getElem_cons_zero]
  try simp only [Act.put]
  try simp only [List.setIfInBounds_toArray]
  try simp only [List.set]
  refine wpAnyH_done (by kernel_rfl) ?_ _
  generalize World.alloc _ _ = D4 at hHeld ⊢
  obtain ⟨C, g⟩ := hHeld
  by_cases hq : orC qv qf = 0
  · obtain ⟨hv0, hf0⟩ := orC_zero.1 hq
    have HV : Hid (viewQ ps = 0) := HQv.out.trans hv0
    have HF : Hid (faultI t k v s = 0) := HQf.out.trans hf0
    rw [hq]
    obtain ⟨⟨t0, t1⟩, ⟨k0, k1⟩, ⟨v0, v1⟩, hs8⟩ := fault_bounds HF.out
    have h12 : n ≤ 12 := by rw [← HN.out]; exact (view_zero HV.out).1
    have hfr := implFindRow_any a ps n c t k D4 HN.out (by omega) hp (HRd.out.below (HG.out _ g) (Nat.le_refl _))
    obtain ⟨z0, z1, z2, z3⟩ := C
    clear hq hv0 hf0 z2 z3 HPf HRf HQv HQf
    rcases find_deZ hp t k with ⟨z, hz, hfe, _⟩ | ⟨hz, q, hfe, hqn, _⟩
    · rw [hfe] at hfr
      simp only [toPl, plV] at hfr
      have HE : Hid _ := is_taken HV.out HF.out hz
      clear hz hfe
      go_upto_region 5 with (go_at_call 15; refine hfr.mono ?_; rintro e w1 ⟨rfl, g1⟩; clear hfr)
      have g2 := g.trans (g1.mono g.size)
      obtain ⟨c0, c1, c2, f0, f1, f2⟩ := HO.out _ g2
      have g3 := HG.out _ g2
      have hgs := g3.size
      clear z0 z1 g1 g g2
      go_wp2_with fail
      refine bodyPost_ret (v := .agg #[.int .i64 6, .slice none 0 0, .slice none 0 0]) (by simp [results, Tryz.results12, go_sem, *]) rfl ?_
      rw [HE.out.1]
      exact AePost.nil HE.out.2.1 HE.out.2.2 (by go_grown)
    · rw [hfe] at hfr
      simp only [rp, plV] at hfr
      have HE : Hid _ := is_in HV.out HF.out hz
      have dq : (q == 0) = false := by simpa using hqn
      clear hz hfe hqn
      go_upto_region 6 with (go_at_call 15; refine hfr.mono ?_; rintro e w1 ⟨rfl, g1⟩; clear hfr)
      have gU := g.trans (g1.mono g.size)
      have hYU := gU.size
      have how := ownPages_any a ps n c w1 HN.out (by omega) hp (HRn.out.below (HG.out _ gU) (Nat.le_refl _))
      have HO1 : Hid (∀ V, Below w1.heap.size w1 V → Rs3 V rb) := fun V hV => HO.out _ (gU.trans (hV.mono hYU))
      have HR1 : Hid (∀ V, Below w1.heap.size w1 V → RowAt V w.heap.size t k v s) := fun V hV => HRw.out _ (gU.trans (hV.mono hYU))
      have HG1 : Hid (∀ V, Below w1.heap.size w1 V → Below w.heap.size w V) := fun V hV => HG.out _ (gU.trans (hV.mono hYU))
      have hru : rb < w1.heap.size := by omega
      clear z0 z1 g1 g gU HO HRw HG hYU hry hby
      go_upto_region 7 with (go_at_call 52; refine how.mono ?_; rintro e w2 ⟨v2, V2, rfl, g2, hP, hS2⟩; obtain ⟨x2, k2, hv2, _⟩ := hP.own hS2; subst hv2; clear how)
      have hs2 := g2.size
      have gY2 : Below w2.heap.size w2 (w2.alloc (.cells #[.slice x2 ps.length k2, .slice none 0 0] 82)) := (Below.refl _ w2).alloc (Nat.le_refl _) _
      have hSt : HpS w1.heap.size w1 w2.heap.size [] ps none 0 [] x2 k2 V2 (w2.alloc (.cells #[.slice x2 ps.length k2, .slice none 0 0] 82)) := ⟨⟨EdB.nil _ _, hP.below gY2, fun i j u u' g _ h => by simp at h, hS2, fun g h => by rcases h with h | ⟨u, hu, _⟩; cases h; simp at hu⟩, ⟨by simp [go_sem], by simp [go_sem], by simp [go_sem], by simp [go_sem]⟩, fun h => by rcases h with h | ⟨u, hu, _⟩; cases h; simp at hu, fun h => Nat.lt_irrefl _ (hP.lt h).2, g2.trans (gY2.mono hs2), hs2⟩
      clear hP hS2 g2 gY2 hs2
      generalize w2.heap.size = ob at hSt ⊢
      generalize w2.alloc (.cells #[.slice x2 ps.length k2, .slice none 0 0] 82) = W3 at hSt ⊢
      have hlen := cellB_len 0 t k v s
      have hbd := cellB_bd (f := 0) (by omega) (by omega) t0 t1 k0 k1 v0 v1 hs8
      have HBd : Hid (∀ z ∈ cellBytes 0 t k v s, 0 ≤ z ∧ z ≤ 255) := hbd
      have HLen : Hid ((cellBytes 0 t k v s).length = 6 + s.size) := hlen
      have hcc := rowCell_any 0 t k v s W3 (by omega) (by omega) t0 t1 k0 k1 v0 v1 hs8
      obtain ⟨z0, z1, z2, z3⟩ := HR1.out _ hSt.g
      clear hbd hlen
      go_wp2_with fail
      refine hcc.mono ?_
      rintro e w4 ⟨g, cc, rfl, g4, hB⟩
      obtain ⟨hg1, hg2⟩ := hB.at' (by rw [HLen.out]; omega)
      have hX := hSt.with1 g4 hg1 hg2
      have hC := cx_of hB HLen.out (by omega) (by omega) HBd.out
      have hpl := placeCell_any _ _ w1.heap.size w1 ob [] ps (-1) g 0 (6 + s.size) cc _ w4 ⟨_, _, _, _, _, _, hX⟩ (view_pages hp HV.out).2 (by rw [HN.out]; exact h12) (by simp) hC (by omega)
      obtain ⟨r, hr⟩ : ∃ r, plR ps (cellBytes 0 t k v s) = r := ⟨_, rfl⟩
      rw [show plS (-1) (cellBytes 0 t k v s) ps.length 0 ([], ps) = r from hr] at hpl
      have HPl : Hid (Calls Tryz.prog 53 #[.pointer (some ⟨ob, 0, none⟩), .slice (some ⟨g, 0, none⟩) (6 + s.size) cc, .int .i64 (-1)] w4 fun e w' => PcPost (fun q => q = g) (fun q => w4.heap[q]?) w1.heap.size w1 ob r e w') := hpl
      obtain ⟨⟨es, cur⟩, ro⟩ := r
      clear hSt hcc hB hX hC hpl z0 z1 z2 z3 hg1 hg2 g4
      cases ro with
      | none =>
        obtain ⟨e1, e2, e3⟩ := in_none hr
        have HE2 : Hid (isQ ps t k v s = 9 ∧ isE ps t k v s = [] ∧ isP ps t k v s = []) := ⟨HE.out.1.trans e1, HE.out.2.1.trans e2, HE.out.2.2.trans e3⟩
        clear hr e1 e2 e3 HE
        go_wp2_with fail
        refine HPl.out.mono ?_
        rintro e w5 ⟨rfl, x1, k1, V1, x2, k2, V2, hS⟩
        have hg5 := hS.g
        clear HPl hS
        go_upto_region 8 with (fail)
        generalize hU : World.alloc w5 _ = U
        have gU : Below w5.heap.size w5 U := by rw [← hU]; go_grown
        clear hU
        have gU := hg5.trans (gU.mono hg5.size)
        have hc1 := answer_full ob U
        clear hg5
        go_wp2_with (go_at_call 55; refine hc1.mono ?_)
        rintro e w6 ⟨rfl, g6⟩
        have g7 := gU.trans (g6.mono gU.size)
        obtain ⟨c0, c1, c2, f0, f1, f2⟩ := HO1.out _ g7
        have g8 := HG1.out _ g7
        have hgs := g8.size
        clear hc1 g6 gU g7
        go_wp2_with fail
        refine bodyPost_ret (v := .agg #[.int .i64 9, .slice none 0 0, .slice none 0 0]) (by simp [results, Tryz.results12, go_sem, *]) rfl ?_
        rw [HE2.out.1]
        exact AePost.nil HE2.out.2.1 HE2.out.2.2 (by go_grown)
      | some x =>
        obtain ⟨e1, e2, e3⟩ := in_some hr
        have HE2 : Hid (isQ ps t k v s = 0 ∧ isE ps t k v s = es ∧ isP ps t k v s = cur) := ⟨HE.out.1.trans e1, HE.out.2.1.trans e2, HE.out.2.2.trans e3⟩
        clear hr e1 e2 e3 HE
        go_wp2_with fail
        refine HPl.out.mono ?_
        rintro e w5 ⟨rfl, x1, k1, V1, x2, k2, V2, hS⟩
        have HS : Hid _ := hS.toHpS
        clear HPl hS
        go_upto_region 8 with (fail)
        generalize hU : World.alloc w5 _ = U
        have gU : Below w5.heap.size w5 U := by rw [← hU]; go_grown
        clear hU
        have hS := HS.out.below gU
        have hc1 := answer_any ob x1 x2 es.length k1 cur.length k2 U hS.o
        have HS : Hid _ := hS
        clear hS gU
        go_wp2_with (go_at_call 55; refine hc1.mono ?_)
        rintro e w6 ⟨rfl, g6⟩
        have hS := HS.out.below g6
        have hg := HG1.out _ hS.g
        have hgs := hg.size
        have HA : Hid _ := hS.out (rb := rb) (m := w.heap.size) hru (by omega)
        obtain ⟨c0, c1, c2, f0, f1, f2⟩ := HO1.out _ hS.g
        clear hS HS hc1 g6
        go_wp2_with fail
        refine bodyPost_ret (v := .agg #[.int .i64 0, .slice x1 es.length k1, .slice x2 cur.length k2]) (by simp [results, Tryz.results12, go_sem, *]) rfl ?_
        exact AePost.mk0 HE2.out.1 HE2.out.2.1 HE2.out.2.2 (by go_grown) HA.out
  · have HE : Hid (isQ ps t k v s = orC qv qf ∧ isE ps t k v s = [] ∧ isP ps t k v s = []) := by
      by_cases h0 : viewQ ps = 0
      · have hqv0 : qv = 0 := HQv.out.symm.trans h0
        have hf : faultI t k v s ≠ 0 := fun h => hq (orC_zero.2 ⟨hqv0, HQf.out.symm.trans h⟩)
        obtain ⟨e1, e2, e3⟩ := is_fault h0 hf
        refine ⟨e1.trans ?_, e2, e3⟩
        unfold orC; rw [if_pos hqv0]; exact HQf.out
      · obtain ⟨e1, e2, e3⟩ := is_view (t := t) (k := k) (v := v) (s := s) h0
        refine ⟨e1.trans ?_, e2, e3⟩
        unfold orC; rw [if_neg (fun h => h0 (HQv.out.trans h))]; exact HQv.out
    have dv : (orC qv qf != 0) = true := by simpa using hq
    generalize orC qv qf = q at dv HE ⊢
    obtain ⟨c0, c1, c2, f0, f1, f2⟩ := HO.out _ g
    have g3 := HG.out _ g
    have hgs := g3.size
    clear hq g C HPf HRf
    go_wp2_with fail
    refine bodyPost_ret (v := .agg #[.int .i64 q, .slice none 0 0, .slice none 0 0]) (by simp [results, Tryz.results12, go_sem, *]) rfl ?_
    rw [HE.out.1]
    exact AePost.nil HE.out.2.1 HE.out.2.2 (by go_grown)

end Go.Proofs.YtnfolgoloaeanaaGreat

/-
  What is placed stays within bounds.
-/
namespace Go.Proofs.YtnfolgoloaeanaaGreat
open Go.RowKit
set_option linter.unusedVariables false

/-- Right pages, not too many, and edits of one page each. -/
structure GdS (s : St) (k : Nat) : Prop where
  p : okP s.2
  l : s.2.length ≤ 12
  e : s.1.length ≤ k
  b : ∀ x ∈ s.1, x.2.length ≤ 64
theorem GdS.mono {s : St} {k k' : Nat} (h : GdS s k) (hk : k ≤ k') : GdS s k' := ⟨h.p, h.l, Nat.le_trans h.e hk, h.b⟩
theorem wpL_lenle {cur : List (List Int)} {p : Nat} {zs : List Int} (h : cur.length ≤ 12) (hp : p < 12) : (wpL cur p zs).length ≤ 12 := by
  unfold wpL
  split
  · rename_i e; rw [List.length_append]; simp; omega
  · rw [List.length_set]; exact h
theorem GdS.turn {s : St} {k : Nat} (h : GdS s k) {p : Nat} (hp : p < 12) {zs : List Int} (hz : Fine zs) : GdS (tnS s p zs) (k + 1) := by
  refine ⟨h.p.turn p hz, wpL_lenle h.l hp, ?_, fun x hx => ?_⟩
  · have := tn_len s.1 s.2 p zs; have := h.e; show (tnE _ _ _ _).length ≤ _; omega
  · have hx' : x ∈ tnE s.1 s.2 p zs := hx
    unfold tnE at hx'
    split at hx'
    · exact h.b x hx'
    · rcases List.mem_append.1 hx' with h1 | h1
      · exact h.b x h1
      · rw [List.mem_singleton.1 h1]; exact Nat.le_of_eq hz.pg.len
theorem GdS.pi {s : St} {k : Nat} (h : GdS s k) {p : Nat} (hp : p < 12) {old cs : List Int} (ho : Fine old) (hc : ∀ z ∈ cs, 0 ≤ z ∧ z ≤ 255) (h1 : 1 ≤ cs.length) : GdS (piS s p old cs).1 (k + 2) := by
  unfold piS
  split
  · rename_i hq
    exact (h.turn hp (fine_put ho hc h1 hq)).mono (by omega)
  · split
    · split
      · rename_i hq
        exact (h.turn hp (fine_compact ho)).turn hp (fine_put (fine_compact ho) hc h1 hq)
      · exact (h.turn hp (fine_compact ho)).mono (by omega)
    · exact h.mono (by omega)
theorem pi_len {s : St} {p : Nat} {old cs : List Int} (hp : p < s.2.length) : (piS s p old cs).1.2.length = s.2.length := by
  unfold piS
  split
  · exact wpL_len hp
  · split
    · split
      · show (wpL (wpL _ _ _) _ _).length = _
        rw [wpL_len (by rw [wpL_len hp]; exact hp), wpL_len hp]
      · exact wpL_len hp
    · rfl
theorem GdS.pl (x : Int) {cs : List Int} (hc : ∀ z ∈ cs, 0 ≤ z ∧ z ≤ 255) (h1 : 1 ≤ cs.length) (h20 : cs.length ≤ 20) : ∀ (k p : Nat) (s : St) (m : Nat), GdS s m → p + k = s.2.length → GdS (plS x cs k p s).1 (m + 2 * k + 1)
  | 0, p, s, m, h, _ => by
    unfold plS nwS
    split
    · exact h.mono (by omega)
    · rename_i hl
      exact h.turn (by omega) (fine_put (fine_new 0 (by omega) (by omega)) hc h1 (putQ_new _ h20))
  | k + 1, p, s, m, h, hp => by
    have hl := h.l
    have hpl : p < s.2.length := by omega
    have hold : s.2[p]? = some (s.2.getD p []) := by rw [List.getD_eq_getElem?_getD, List.getElem?_eq_getElem hpl]; rfl
    have hpi := h.pi (p := p) (by omega) (h.p.at hold) hc h1
    unfold plS
    split
    · exact (GdS.pl x hc h1 h20 k (p + 1) s m h (by omega)).mono (by omega)
    · split
      · exact hpi.mono (by omega)
      · exact (GdS.pl x hc h1 h20 k (p + 1) _ (m + 2) hpi (by rw [pi_len hpl]; omega)).mono (by omega)
theorem GdS.big {s : St} {k : Nat} (h : GdS s k) (hk : k ≤ 1000) : bigE s.1 ≤ 2000000 ∧ bigQ s.2 ≤ 13000000 :=
  ⟨bigE_le h.b (Nat.le_trans h.e hk), bigQ_le (fun zs hz => Nat.le_of_eq (h.p zs hz).pg.len) (Nat.le_trans h.l (by omega))⟩
theorem GdS.start {ps : List (List Int)} (hp : PgOk ps) (h : viewQ ps = 0) : GdS ([], ps) 0 := by
  obtain ⟨h1, h2⟩ := view_pages hp h
  exact ⟨h2, h1, by simp, by simp⟩
theorem big_nil : bigE [] ≤ 2000000 ∧ bigQ [] ≤ 13000000 := ⟨bigE_le (by simp) (by simp), bigQ_le (by simp) (by simp)⟩

theorem in_big {ps : List (List Int)} (hp : PgOk ps) (h : viewQ ps = 0) {t k v : Int} {s : ByteArray} (hf : faultI t k v s = 0) : bigE (inE ps (cellBytes 0 t k v s)) ≤ 2000000 ∧ bigQ (inP ps (cellBytes 0 t k v s)) ≤ 13000000 := by
  obtain ⟨⟨t0, t1⟩, ⟨k0, k1⟩, ⟨v0, v1⟩, hs8⟩ := fault_bounds hf
  have hl := cellB_len 0 t k v s
  have hg := GdS.pl (-1) (cellB_bd (f := 0) (by omega) (by omega) t0 t1 k0 k1 v0 v1 hs8) (by omega) (by omega) ps.length 0 ([], ps) 0 (GdS.start hp h) (by simp)
  have h12 := (view_zero h).1
  have hb := hg.big (by omega)
  unfold inE inP
  split
  · exact hb
  · exact big_nil
theorem is_big {ps : List (List Int)} (hp : PgOk ps) (t k v : Int) (s : ByteArray) : bigE (isE ps t k v s) ≤ 2000000 ∧ bigQ (isP ps t k v s) ≤ 13000000 := by
  unfold isE isP
  split
  · rename_i h1
    split
    · rename_i h2
      split
      · exact big_nil
      · exact in_big hp h1 h2
    · exact big_nil
  · exact big_nil

end Go.Proofs.YtnfolgoloaeanaaGreat

/-
  What came in, opened: pages. The law FnExactPagesFault answers true.
-/
namespace Go.Proofs.YtnfolgoloaeanaaGreat
open Go.ChangeShapes Go.WideShapes Go.RowKit
set_option linter.unusedVariables false

theorem open_bytes_one {H : Type} {enc : TypeId × Value → H} {W : World} {base : Nat} {held : Bool} {fuel : Nat} {v : Value} {x : DataW H × List MemPlace}
    (h : DataW.trod enc Tryz.prog W base (fun _ => true) held fuel 22 [v] = some x) : ∃ a zs c, v = .slice a zs.length c ∧ zs.length ≤ c ∧ zs.length ≤ 9223372036854775807 ∧ Reads W a zs ∧ ∀ z ∈ zs, 0 ≤ z ∧ z ≤ 255 := by
  have hml : maxLen = 9223372036854775807 := by decide
  rcases open_ints Tryz.underlying22 Tryz.underlying5 (by kernel_rfl) h with ⟨hcs, _⟩ | ⟨u, l', c', zs, hcs, _, hl', hm', hz, _, hc', hwz⟩
  · simp only [List.cons.injEq, and_true] at hcs
    exact ⟨none, [], 0, hcs, Nat.le_refl _, by simp, .inl rfl, fun z hz => by simp at hz⟩
  · simp only [List.cons.injEq, and_true] at hcs
    have hrow : IsRow .u8 W (some u) l' c' zs := .inr ⟨u, rfl, hl', hm', by simpa using hz, hc', hwz⟩
    obtain ⟨h1, h2, h3, h4⟩ := isRow_reads hrow
    exact ⟨some u, zs.take l', c', by rw [hcs]; simp only [h1], by rw [h1]; exact h2, by rw [h1]; omega, h3, h4⟩

theorem open_pages {H : Type} {enc : TypeId × Value → H} {W : World} {base : Nat} {held : Bool} {fuel : Nat} {a : Option Addr} {len cap : Nat} {x : DataW H × List MemPlace}
    (h : DataW.trod enc Tryz.prog W base (fun _ => true) held fuel 24 [.slice a len cap] = some x) : ∃ ps, IsPages W a len ps := by
  have hml : maxLen = 9223372036854775807 := by decide
  rcases Go.Deep.open_slice Tryz.underlying24 h with ⟨hcs, _⟩ | ⟨y, l, c, m, n, Dd, Pl, hcs, hb, hl, hm, hmm, _, hx⟩
  · simp only [List.cons.injEq, Value.slice.injEq, and_true] at hcs
    obtain ⟨rfl, rfl, rfl⟩ := hcs
    exact ⟨[], .inl rfl, rfl, by omega, fun r hr => by simp at hr⟩
  · simp only [List.cons.injEq, Value.slice.injEq, and_true] at hcs
    obtain ⟨rfl, rfl, rfl⟩ := hcs
    simp only [if_true] at hmm
    subst hmm
    have ce : Tryz.prog.cellsOf 22 = 1 := by kernel_rfl
    have each : ∀ i, i < len → ∃ q : Option Addr × List Int × Nat, W.cell? (y.add i) = some (.slice q.1 q.2.1.length q.2.2) ∧ q.2.1.length ≤ q.2.2 ∧ q.2.1.length ≤ 9223372036854775807 ∧ Reads W q.1 q.2.1 ∧ ∀ z ∈ q.2.1, 0 ≤ z ∧ z ≤ 255 := by
      intro i hi
      obtain ⟨cs', h1, h2⟩ := hx i (by omega)
      rw [ce] at h1
      obtain ⟨_, hlen, hcell⟩ := World.cells?_some h1
      obtain ⟨v, rfl⟩ : ∃ v, cs' = [v] := by
        match cs', hlen with
        | [v], _ => exact ⟨v, rfl⟩
      obtain ⟨a', zs, c', rfl, h3, h4, h5, h6⟩ := open_bytes_one h2
      have k0 := hcell 0 (by omega)
      rw [Go.Deep.add_add] at k0
      exact ⟨(a', zs, c'), by simpa using k0, h3, h4, h5, h6⟩
    obtain ⟨q, hq⟩ := Go.Deep.choose_lt each
    refine ⟨(List.range len).map (fun i => (q i).2.1), ?_, by simp, by omega, ?_⟩
    · by_cases h0 : len = 0
      · subst h0; exact .inl rfl
      · obtain ⟨b, off, spot⟩ := y
        have hc0 := (hq 0 (by omega)).1
        have hspot : spot = none := by simpa [Addr.add] using World.cell?_spot hc0
        subst hspot
        have ea : ∀ i, (⟨b, off, none⟩ : Addr).add i = ⟨b, off + i, none⟩ := by intro i; unfold Addr.add; split <;> simp_all
        refine .inr ⟨b, off, rfl, fun i r hr => ?_⟩
        obtain ⟨hi, rfl⟩ := list_of_fun (fun i => (q i).2.1) len hr
        obtain ⟨q0, q1, _, q3, _⟩ := hq i hi
        rw [ea] at q0
        exact ⟨_, _, q0, q1, q3⟩
    · intro r hr
      obtain ⟨i, hi, rfl⟩ := List.mem_map.1 hr
      obtain ⟨_, _, q2, _, q4⟩ := hq i (by simpa using hi)
      exact ⟨q2, q4⟩

end Go.Proofs.YtnfolgoloaeanaaGreat

/-
  Pages marked: markByteSS.
-/
namespace Go.Proofs.YtnfolgoloaeanaaGreat
open Go.RowKit
set_option linter.unusedVariables false

theorem Turned.widen {lo hi lo' hi' : Nat} {w w' : World} (h : Turned lo hi w w') (h1 : lo' ≤ lo) (h2 : hi ≤ hi') : Turned lo' hi' w w' := ⟨h.os, h.tape, h.output, h.size, fun k hk hn => h.block k hk (by omega)⟩

set_option maxHeartbeats 1000000 in
theorem markByteSS_any (g n c hi : Nat) (ps : List (List Int)) (F : Nat → Nat) (w : World) (hn : ps.length = n) (hm : n ≤ 1048576) (hp : PgOk ps) (hP : PartP w g n n ps F) (hhi : ∀ i zs, i < n → ps[i]? = some zs → zs ≠ [] → F i < hi) :
    Calls Tryz.prog 41 #[.slice (some ⟨g, 0, none⟩) n c, .int .i64 1] w fun e w' => ∃ r : Int, e = .returned (.int .i64 r) ∧ 0 ≤ r ∧ Turned (g + 1) hi w w' := by
  have HN : Hid (ps.length = n) := hn
  have HP : Hid (PgOk ps) := hp
  have HPt : Hid (PartP w g n n ps F) := hP
  have HHi : Hid (∀ i zs, i < n → ps[i]? = some zs → zs ≠ [] → F i < hi) := hhi
  clear hn hp hP hhi
  go_enter Tryz.func41, Tryz.ntmps41
  go_wp2_with fail
  go_loopw [5, 1] (fun i kk wr => ∃ (j : Nat) (r : Int), j ≤ n ∧ i = .int .i64 j ∧ kk = .int .i64 r ∧ 0 ≤ r ∧ r ≤ 1 + 1048576 * j ∧ Turned (g + 1) hi w wr ∧ Hid (∀ i zs, j ≤ i → ps[i]? = some zs → BytesIn (F i) (F i + 1) wr (some ⟨F i, 0, none⟩) zs)) (fun i _ _ => n - (intOf i).toNat)
  case atStart => exact ⟨0, 1, Nat.zero_le _, rfl, rfl, by omega, by omega, Turned.refl _ _ _, fun i zs _ hz => (HPt.out.c i zs (by rw [← HN.out]; exact (List.getElem?_eq_some_iff.1 hz).1) hz).2⟩
  case round =>
    obtain ⟨j, r, hj, rfl, rfl, hr0, hr1, ht, hB⟩ := hrel
    by_cases hlt : j < n
    · obtain ⟨zs, hzs⟩ := at_lt' (rs := ps) (i := j) (by rw [HN.out]; exact hlt)
      have hz1 := (HP.out zs (List.mem_of_getElem? hzs)).1
      have c0 := ht.cell (HPt.out.c j zs hlt hzs).1 (.inl (by simp))
      have hb := hB.out j zs (Nat.le_refl _) hzs
      have hFg := HPt.out.fr j hlt
      have hjn : (j : Int) < (n : Int) := by omega
      have hrb : r ≤ 140737488351232 := by omega
      by_cases hne : zs = []
      · subst hne
        have hb0 : BytesIn 0 0 wr (some ⟨F j, 0, none⟩) [] := .inl rfl
        go_wp2_with fail
        refine (markByteS_any _ 0 0 [] 0 0 r _ rfl (by omega) hr0 hrb hb0).mono ?_
        rintro e w2 ⟨rfl, t2, _⟩
        have HB2 : Hid (∀ i zs, j + 1 ≤ i → ps[i]? = some zs → BytesIn (F i) (F i + 1) w2 (some ⟨F i, 0, none⟩) zs) := fun i zs hi hz => (hB.out i zs (by omega) hz).turned t2 (.inr (Nat.zero_le _))
        have ht2 := ht.trans (Turned.widen (lo' := g + 1) (hi' := hi) ⟨t2.os, t2.tape, t2.output, t2.size, fun k hk _ => t2.block k hk (by omega)⟩ (Nat.le_refl _) (Nat.le_refl _))
        clear t2 c0 hb hb0 ht hB
        go_wp2_with fail
        go_roundw
        case rel => exact ⟨j + 1, r, by omega, by go_num, by simp, hr0, by omega, ht2, HB2⟩
        case measure => simp [intOf]; omega
      · have hFl := HHi.out j zs hlt hzs hne
        obtain ⟨zl, hzl⟩ : ∃ zl, zl = zs.length := ⟨_, rfl⟩
        rw [← hzl] at c0
        have hzl2 : zl ≤ 1048576 := by rw [hzl]; exact hz1
        have HZ : Hid (zs.length = zl) := hzl.symm
        clear hzl hz1
        go_wp2_with fail
        refine (markByteS_any _ (F j) (F j + 1) zs zl zl r _ HZ.out (by omega) hr0 hrb hb).mono ?_
        rintro e w2 ⟨rfl, t2, _⟩
        have HB2 : Hid (∀ i zs, j + 1 ≤ i → ps[i]? = some zs → BytesIn (F i) (F i + 1) w2 (some ⟨F i, 0, none⟩) zs) := fun i ys hi hz => by
          have hil : i < n := by rw [← HN.out]; exact (List.getElem?_eq_some_iff.1 hz).1
          have := HPt.out.ne j i zs (by omega) hil hzs hne
          exact (hB.out i ys (by omega) hz).turned t2 (.inr (by omega))
        have ht2 := ht.trans (t2.widen (lo' := g + 1) (hi' := hi) (by omega) (by omega))
        clear t2 c0 hb ht hB
        go_wp2_with fail
        go_roundw
        case rel => exact ⟨j + 1, r + zl, by omega, by go_num, rfl, by omega, by omega, ht2, HB2⟩
        case measure => simp [intOf]; omega
    · have e : j = n := by omega
      subst e
      go_wp2_with fail
      go_ret
      exact ⟨r, rfl, hr0, ht⟩

end Go.Proofs.YtnfolgoloaeanaaGreat

