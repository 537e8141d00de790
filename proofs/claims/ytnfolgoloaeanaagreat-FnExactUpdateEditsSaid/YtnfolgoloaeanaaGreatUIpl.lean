/-
  The program's placeCell.
-/
import Derived.Test.YtnfolgoloaeanaaGreatUIss
import Derived.Recover
import Derived.LoopN
import Derived.WalkMore
import Derived.Test.YtnfolgoloaeanaaGreatUDeb
import Derived.Test.YtnfolgoloaeanaaGreatUItc
import Derived.Test.YtnfolgoloaeanaaGreatUIde

namespace Go.Proofs.YtnfolgoloaeanaaGreat
open Go.RowKit
set_option linter.unusedVariables false
set_option maxRecDepth 20000

/-- What placeCell hands back. -/
def PcPost (sb : Nat → Prop) (B : Nat → Option Obj) (n₀ : Nat) (X : World) (ob : Nat) (r : St × Option (Nat × Nat)) (e : Ending) (V : World) : Prop := e = .returned (.tuple #[.agg #[.int .i64 (((r.2.map (·.1)).getD 0 : Nat) : Int), .int .i64 (((r.2.map (·.2)).getD 0 : Nat) : Int)], .bool r.2.isSome]) ∧ R3X sb B n₀ X ob r.1.1 r.1.2 V

theorem pi_zero {s : St} {j : Nat} {old cs : List Int} (h : putQ old cs.length = 0) : piS s j old cs = (tnS s j (putP old cs), some (putS old)) := by unfold piS; rw [if_pos h]
theorem pi_two {s : St} {j : Nat} {old cs : List Int} (h : putQ old cs.length = 8) (h2 : putQ (cpL old) cs.length = 0) : piS s j old cs = (tnS (tnS s j (cpL old)) j (putP (cpL old) cs), some (putS (cpL old))) := by unfold piS; rw [h, if_neg (by decide), if_pos rfl, if_pos h2]
theorem pi_vain {s : St} {j : Nat} {old cs : List Int} (h : putQ old cs.length = 8) (h2 : putQ (cpL old) cs.length ≠ 0) : piS s j old cs = (tnS s j (cpL old), none) := by unfold piS; rw [h, if_neg (by decide), if_pos rfl, if_neg h2]
theorem pi_none {s : St} {j : Nat} {old cs : List Int} (h : putQ old cs.length ≠ 0) (h2 : putQ old cs.length ≠ 8) : piS s j old cs = (s, none) := by unfold piS; rw [if_neg h, if_neg h2]

set_option maxHeartbeats 16000000 in
theorem placeCell_any (sb : Nat → Prop) (B : Nat → Option Obj) (n₀ : Nat) (X : World) (ob : Nat) (es : List (Int × List Int)) (cur : List (List Int)) (x : Int) (cb so n cc : Nat) (cs : List Int) (w : World) (hS : R3X sb B n₀ X ob es cur w) (hok : okP cur) (hc12 : cur.length ≤ 12) (hel : es.length ≤ 100) (hC : Cx sb cb so B cs n) (hx : x < cur.length) :
    Calls Tryz.prog 53 #[.pointer (some ⟨ob, 0, none⟩), .slice (some ⟨cb, so, none⟩) n cc, .int .i64 x] w fun e w' => PcPost sb B n₀ X ob (plS x cs cur.length 0 (es, cur)) e w' := by
  have hmf : ∀ (fn : Fn) (first cap : Array Value) (w : World), (Instr.makeFunc fn first cap).run Tryz.prog w = .ok (.func fn first cap) w := fun _ _ _ _ => rfl
  obtain ⟨m, hm⟩ : ∃ m, cur.length = m := ⟨_, rfl⟩
  rw [hm] at hc12 hx ⊢
  obtain ⟨R, hR⟩ : ∃ R, plS x cs m 0 (es, cur) = R := ⟨_, rfl⟩
  have HR : Hid (plS x cs m 0 (es, cur) = R) := hR
  rw [hR]
  have HC : Hid (Cx sb cb so B cs n) := hC
  have hcn := hC.ln
  have h1 := hC.h1
  have h20 := hC.h20
  have hA : OkS (es, cur) m 100 := ⟨hok, hm, hel⟩
  have HS : Hid (R3X sb B n₀ X ob es cur w) := hS
  clear hR hC hok hm hel hS
  go_enter_defers Tryz.func53, Tryz.ntmps53
  go_wp2_with fail
  refine wp_scope_straight ?_
  go_wp2_with (refine wp_label ?_)
  generalize hY : World.alloc _ _ = Y
  have gY : Below w.heap.size w Y := by rw [← hY]; go_grown
  have hYs : Y.heap.size = w.heap.size + 4 := by rw [← hY]; simp
  have hI : PcI sb B n₀ X ob w.heap.size (w.heap.size + 1) (w.heap.size + 2) (w.heap.size + 3) (es, cur) Y := by
    obtain ⟨y1, m1, W1, y2, m2, W2, hx0⟩ := HS.out
    refine ⟨⟨_, _, _, _, _, _, hx0.more gY (fun g hg => ?_)⟩, fun g hg => (gY.block g (hx0.ls g hg)).trans (hx0.b g hg), ?_⟩
    · rcases hg with h | h | h | h | h
      · exact .inl h
      · exact .inr (by omega)
      · exact .inr (by omega)
      · exact .inr (by omega)
      · exact .inr (by omega)
    · rw [← hY]
      exact ⟨by simp [go_sem], by simp [go_sem], by simp [go_sem], by simp [go_sem], ⟨.int .i64 0, by simp [go_sem]⟩, ⟨.int .i64 0, by simp [go_sem]⟩, ⟨.slice none 0 0, by simp [go_sem]⟩, by simp [go_sem], by simp [go_sem], by simp [go_sem], by simp [go_sem], by simp [go_sem], by simp [go_sem]⟩
  have hs : ∀ g, sb g → g < w.heap.size := by
    obtain ⟨y1, m1, W1, y2, m2, W2, hx0⟩ := HS.out
    exact hx0.ls
  have hn0 : n₀ ≤ w.heap.size := by
    obtain ⟨y1, m1, W1, y2, m2, W2, hx0⟩ := HS.out
    exact hx0.sz
  obtain ⟨ab, hab⟩ : ∃ ab, w.heap.size + 1 = ab := ⟨_, rfl⟩
  obtain ⟨kb, hkb⟩ : ∃ kb, w.heap.size + 2 = kb := ⟨_, rfl⟩
  obtain ⟨pb, hpb⟩ : ∃ pb, w.heap.size + 3 = pb := ⟨_, rfl⟩
  rw [hab, hkb, hpb] at hI
  simp only [hab, show ab + 1 = kb by omega, show kb + 1 = pb by omega]
  have l1 : w.heap.size < ab := by omega
  have l2 : ab < kb := by omega
  have l3 : kb < pb := by omega
  clear hab hkb hpb hYs gY hY HS
  generalize w.heap.size = hb at hI hs hn0 l1 ⊢
  go_loopw [9] (fun k wr => ∃ (j : Nat) (s : St), j ≤ m ∧ k = .int .i64 j ∧ Hid (plS x cs (m - j) j s = R) ∧ Hid (OkS s m (100 + 2 * j)) ∧ PcI sb B n₀ X ob hb ab kb pb s wr) (fun k _ => m + 1 - (intOf k).toNat)
  case atStart => exact ⟨0, (es, cur), Nat.zero_le _, rfl, HR, hA, hI⟩
  case round =>
    clear hI hA HR
    obtain ⟨j, st, hj, rfl, HR, HA, hI⟩ := hrel
    have hA := HA.out
    have HI : Hid (PcI sb B n₀ X ob hb ab kb pb st wr) := hI
    by_cases hjx : (j : Int) = x
    · have hlt : j < m := by omega
      have HR2 : Hid (plS x cs (m - (j + 1)) (j + 1) st = R) := by show _ = _; rw [← plS_skip hlt hjx]; exact HR.out
      have dx : ((j : Int) == x) = true := by simpa using hjx
      clear hjx hI
      go_wp2_with fail
      go_roundw
      case rel => exact ⟨j + 1, st, by omega, by go_num, HR2, hA.mono (by omega), HI.out⟩
      case measure => simp [intOf]; omega
    have dx : ((j : Int) == x) = false := by simpa using hjx
    have h0 := hI.l.h0
    obtain ⟨y1, m1, W1, y2, m2, W2, hxx⟩ := hI.s
    have ho := hxx.o
    rw [hA.l] at ho
    by_cases hlt : j < m
    · obtain ⟨old, hold⟩ : ∃ old, st.2[j]? = some old := ⟨_, List.getElem?_eq_getElem (by rw [hA.l]; exact hlt)⟩
      have hF := hA.p.at hold
      obtain ⟨gp, ay, cy, rfl, c8, hyr, hyl⟩ := hxx.page hold
      rw [hF.pg.len] at c8 hyl
      have hpa := pageAt_old gp j m m2 _ wr hlt c8
      obtain ⟨oc0, oc1, of0, of1⟩ := ho
      have hps := putSlot_f ay old cs cy n cc (some ⟨cb, so, none⟩) wr hF hyl hyr hcn h1 h20 HC.out.bd (hI.rd HC.out)
      have HPs : Hid (Calls Tryz.prog 104 #[.slice ay 64 cy, .slice (some ⟨cb, so, none⟩) n cc] wr fun e w' => PsF old cs n wr e w') := hps
      clear hps hxx c8 hyr hI of0 of1
      go_wp2_with fail
      refine wp_loop_rounds 3 ?_
      rw [rounds_succ]
      go_wp2_with fail
      refine hpa.mono ?_
      rintro e w1 ⟨rfl, hw1⟩; subst w1
      clear hpa oc0 oc1
      go_wp2_with fail
      refine HPs.out.mono ?_
      rintro e Z ⟨gZ, hq0, hqn⟩
      clear HPs h0
      by_cases hq : putQ old n = 0
      · obtain ⟨g, rfl, hg, hA5⟩ := hq0 hq
        have hA := hA5
        have hPf : Fine (putP old cs) := fine_put hF HC.out.bd (by omega) (by rw [hcn]; exact hq)
        have HE : Hid (R = ((tnS st j (putP old cs)), some (j, putS old))) := by
          show _ = _
          rw [← HR.out, plS_some hlt hjx hold (sl := putS old) (by rw [pi_zero (by rw [hcn]; exact hq)]), pi_zero (by rw [hcn]; exact hq)]
        clear hq0 hqn hA5
        obtain ⟨sl, hsl⟩ : ∃ sl, putS old = sl := ⟨_, rfl⟩
        have HSl : Hid (putS old = sl) := hsl
        rw [hsl]
        have hI1 := HI.out.below gZ
        obtain ⟨y1, m1, W1, y2, m2, W2, hx⟩ := HI.out.s
        have hfr := hx.fresh hg (o := 0) (n := 64) (c := 64)
        have hgb : pb < wr.heap.size := hx.ls pb (.inr (.inr (.inr (.inr rfl))))
        have hx1 := (hx.below gZ)
        have hx6 := (((((hx1.put (g := pb) (o := 0) (.inr (.inr (.inr (.inr rfl)))) (by omega) (.int .i64 0)).put (g := pb) (o := 1) (.inr (.inr (.inr (.inr rfl)))) (by omega) (.int .i64 (sl : Nat))).put (g := pb) (o := 2) (.inr (.inr (.inr (.inr rfl)))) (by omega) (.slice (some ⟨g, 0, none⟩) 64 64)).put (g := ab) (o := 0) (.inr (.inr (.inl rfl))) (by omega) (.int .i64 (j : Nat))).put (g := ab) (o := 1) (.inr (.inr (.inl rfl))) (by omega) (.int .i64 (sl : Nat))).put (g := kb) (o := 0) (.inr (.inr (.inr (.inl rfl)))) (by omega) (.bool true)
        have hA6 := (((((hA.other ⟨pb, 0, none⟩ (.int .i64 0) (by simp; omega)).other ⟨pb, 1, none⟩ (.int .i64 (sl : Nat)) (by simp; omega)).other ⟨pb, 2, none⟩ (.slice (some ⟨g, 0, none⟩) 64 64) (by simp; omega)).other ⟨ab, 0, none⟩ (.int .i64 (j : Nat)) (by simp; omega)).other ⟨ab, 1, none⟩ (.int .i64 (sl : Nat)) (by simp; omega)).other ⟨kb, 0, none⟩ (.bool true) (by simp; omega)
        have hput := putEdit_any (pcP sb hb ab kb pb) _ n₀ X ob st.1 st.2 y1 m1 W1 y2 m2 W2 j (some ⟨g, 0, none⟩) 64 (putP old cs) _ hx6 (by have := HA.out.l; omega) HA.out.p.bd hPf.pg.bd hPf.pg.len (by have := HA.out.l; omega) (by have := HA.out.e; omega) (hA6.gb (by have := hx.sz; omega)) hfr.1 hfr.2
        have hbs : ∀ g', sb g' → ((((((Z.setCell ⟨pb, 0, none⟩ (.int .i64 0)).setCell ⟨pb, 1, none⟩ (.int .i64 (sl : Nat))).setCell ⟨pb, 2, none⟩ (.slice (some ⟨g, 0, none⟩) 64 64)).setCell ⟨ab, 0, none⟩ (.int .i64 (j : Nat))).setCell ⟨ab, 1, none⟩ (.int .i64 (sl : Nat))).setCell ⟨kb, 0, none⟩ (.bool true)).heap[g']? = B g' := fun g' hg' => by
          have h1 := hs g' hg'
          rw [Below.heap_setCell _ _ _ _ (by simp; omega), Below.heap_setCell _ _ _ _ (by simp; omega), Below.heap_setCell _ _ _ _ (by simp; omega), Below.heap_setCell _ _ _ _ (by simp; omega), Below.heap_setCell _ _ _ _ (by simp; omega), Below.heap_setCell _ _ _ _ (by simp; omega)]
          exact hI1.b g' hg'
        have HPut : Hid (Calls Tryz.prog 86 #[.pointer (some ⟨ob, 0, none⟩), .int .i64 j, .slice (some ⟨g, 0, none⟩) 64 64] ((((((Z.setCell ⟨pb, 0, none⟩ (.int .i64 0)).setCell ⟨pb, 1, none⟩ (.int .i64 (sl : Nat))).setCell ⟨pb, 2, none⟩ (.slice (some ⟨g, 0, none⟩) 64 64)).setCell ⟨ab, 0, none⟩ (.int .i64 (j : Nat))).setCell ⟨ab, 1, none⟩ (.int .i64 (sl : Nat))).setCell ⟨kb, 0, none⟩ (.bool true)) fun e w' => TxPost (pcP sb hb ab kb pb) (fun q => ((((((Z.setCell ⟨pb, 0, none⟩ (.int .i64 0)).setCell ⟨pb, 1, none⟩ (.int .i64 (sl : Nat))).setCell ⟨pb, 2, none⟩ (.slice (some ⟨g, 0, none⟩) 64 64)).setCell ⟨ab, 0, none⟩ (.int .i64 (j : Nat))).setCell ⟨ab, 1, none⟩ (.int .i64 (sl : Nat))).setCell ⟨kb, 0, none⟩ (.bool true)).heap[q]?) n₀ X ob (tnE st.1 st.2 j (putP old cs)) (wpL st.2 j (putP old cs)) e w') := hput
        have HBs : Hid (∀ g', sb g' → ((((((Z.setCell ⟨pb, 0, none⟩ (.int .i64 0)).setCell ⟨pb, 1, none⟩ (.int .i64 (sl : Nat))).setCell ⟨pb, 2, none⟩ (.slice (some ⟨g, 0, none⟩) 64 64)).setCell ⟨ab, 0, none⟩ (.int .i64 (j : Nat))).setCell ⟨ab, 1, none⟩ (.int .i64 (sl : Nat))).setCell ⟨kb, 0, none⟩ (.bool true)).heap[g']? = B g') := hbs
        obtain ⟨h0, a0, a1, k0, ⟨v0, p0⟩, ⟨v1, p1⟩, ⟨v2, p2⟩, fa0, fa1, fk, fp0, fp1, fp2⟩ := hI1.l
        clear hput hbs hx6 hA6 hx1 hx hfr hI1 hA hsl
        go_wp2_with fail
        have z0 : ((((((Z.setCell ⟨pb, 0, none⟩ (.int .i64 0)).setCell ⟨pb, 1, none⟩ (.int .i64 (sl : Nat))).setCell ⟨pb, 2, none⟩ (.slice (some ⟨g, 0, none⟩) 64 64)).setCell ⟨ab, 0, none⟩ (.int .i64 (j : Nat))).setCell ⟨ab, 1, none⟩ (.int .i64 (sl : Nat))).setCell ⟨kb, 0, none⟩ (.bool true)).cell? ⟨kb, 0, none⟩ = some (.bool true) := by simp [go_sem, *]
        have z1 : ((((((Z.setCell ⟨pb, 0, none⟩ (.int .i64 0)).setCell ⟨pb, 1, none⟩ (.int .i64 (sl : Nat))).setCell ⟨pb, 2, none⟩ (.slice (some ⟨g, 0, none⟩) 64 64)).setCell ⟨ab, 0, none⟩ (.int .i64 (j : Nat))).setCell ⟨ab, 1, none⟩ (.int .i64 (sl : Nat))).setCell ⟨kb, 0, none⟩ (.bool true)).cell? ⟨hb, 0, none⟩ = some (.pointer (some ⟨ob, 0, none⟩)) := by simp [go_sem, *]
        have z2 : ((((((Z.setCell ⟨pb, 0, none⟩ (.int .i64 0)).setCell ⟨pb, 1, none⟩ (.int .i64 (sl : Nat))).setCell ⟨pb, 2, none⟩ (.slice (some ⟨g, 0, none⟩) 64 64)).setCell ⟨ab, 0, none⟩ (.int .i64 (j : Nat))).setCell ⟨ab, 1, none⟩ (.int .i64 (sl : Nat))).setCell ⟨kb, 0, none⟩ (.bool true)).cell? ⟨ab, 0, none⟩ = some (.int .i64 (j : Nat)) := by simp [go_sem, *]
        have z3 : ((((((Z.setCell ⟨pb, 0, none⟩ (.int .i64 0)).setCell ⟨pb, 1, none⟩ (.int .i64 (sl : Nat))).setCell ⟨pb, 2, none⟩ (.slice (some ⟨g, 0, none⟩) 64 64)).setCell ⟨ab, 0, none⟩ (.int .i64 (j : Nat))).setCell ⟨ab, 1, none⟩ (.int .i64 (sl : Nat))).setCell ⟨kb, 0, none⟩ (.bool true)).cell? ⟨ab, 1, none⟩ = some (.int .i64 (sl : Nat)) := by simp [go_sem, *]
        have z4 : ((((((Z.setCell ⟨pb, 0, none⟩ (.int .i64 0)).setCell ⟨pb, 1, none⟩ (.int .i64 (sl : Nat))).setCell ⟨pb, 2, none⟩ (.slice (some ⟨g, 0, none⟩) 64 64)).setCell ⟨ab, 0, none⟩ (.int .i64 (j : Nat))).setCell ⟨ab, 1, none⟩ (.int .i64 (sl : Nat))).setCell ⟨kb, 0, none⟩ (.bool true)).cell? ⟨pb, 2, none⟩ = some (.slice (some ⟨g, 0, none⟩) 64 64) := by simp [go_sem, *]
        have hput := HPut.out
        have hbs := HBs.out
        clear HPut HBs h0 a0 a1 k0 p0 p1 p2 fa0 fa1 fk fp0 fp1 fp2
        generalize ((((((Z.setCell ⟨pb, 0, none⟩ (.int .i64 0)).setCell ⟨pb, 1, none⟩ (.int .i64 (sl : Nat))).setCell ⟨pb, 2, none⟩ (.slice (some ⟨g, 0, none⟩) 64 64)).setCell ⟨ab, 0, none⟩ (.int .i64 (j : Nat))).setCell ⟨ab, 1, none⟩ (.int .i64 (sl : Nat))).setCell ⟨kb, 0, none⟩ (.bool true)) = Dw at z0 z1 z2 z3 z4 hput hbs ⊢
        refine leaves_cons (f := 102) (args := #[.pointer (some ⟨kb, 0, none⟩), .pointer (some ⟨hb, 0, none⟩), .pointer (some ⟨ab, 0, none⟩), .pointer (some ⟨pb, 0, none⟩)]) (by simp) (by simp [go_sem]) ?_
        refine (placeCl_yes kb hb ab pb ob j 64 (some ⟨g, 0, none⟩) _ .returning Dw z0 z1 z2 z4 hput).mono ?_
        rintro e u' w9 ⟨rfl, rfl, n1, l1, N1, n2, l2, N2, hx9⟩
        have y2 := (World.cell?_of_block (a := ⟨ab, 0, none⟩) (hx9.b ab (.inr (.inr (.inl rfl))))).trans z2
        have y3 := (World.cell?_of_block (a := ⟨ab, 1, none⟩) (hx9.b ab (.inr (.inr (.inl rfl))))).trans z3
        have y0 := (World.cell?_of_block (a := ⟨kb, 0, none⟩) (hx9.b kb (.inr (.inr (.inr (.inl rfl)))))).trans z0
        refine ⟨.tuple #[.agg #[.int .i64 (j : Nat), .int .i64 (sl : Nat)], .bool true], by simp [results, Tryz.results53, go_sem, y0, y2, y3], ?_⟩
        rw [show R = ((tnE st.1 st.2 j (putP old cs), wpL st.2 j (putP old cs)), some (j, sl)) by rw [← HSl.out]; exact HE.out]
        exact ⟨rfl, _, _, _, _, _, _, hx9.less (fun g' hg' => .inl hg') hbs⟩
      · have e0 := hqn hq
        subst e0
        obtain ⟨q, hqv⟩ : ∃ q, putQ old n = q := ⟨_, rfl⟩
        rw [hqv] at hq ⊢
        clear hq0 hqn
        have hI1 := HI.out.below gZ
        have hI2 := ((hI1.put (by omega) hs l1 l2 l3 0 (.int .i64 q)).put (by omega) hs l1 l2 l3 1 (.int .i64 0)).put (by omega) hs l1 l2 l3 2 (.slice none 0 0)
        have HI2 : Hid (PcI sb B n₀ X ob hb ab kb pb st (((Z.setCell ⟨pb, 0, none⟩ (.int .i64 q)).setCell ⟨pb, 1, none⟩ (.int .i64 0)).setCell ⟨pb, 2, none⟩ (.slice none 0 0))) := hI2
        obtain ⟨h0, a0, a1, k0, ⟨v0, p0⟩, ⟨v1, p1⟩, ⟨v2, p2⟩, fa0, fa1, fk, fp0, fp1, fp2⟩ := hI1.l
        have d0 : (q == 0) = false := by simpa using hq
        clear hI1 hI2
        by_cases hq8 : q = 8
        · subst hq8
          have hx2 := HI2.out.s
          obtain ⟨y1, m1, W1, y2, m2, W2, hx2⟩ := hx2
          have hcm := compact_any _ _ n₀ X ob st.1 st.2 y1 m1 W1 y2 m2 W2 j old _ hx2 hA.p (by rw [hA.l]; exact hc12) (by have := hA.e; omega) hold
          have HCm : Hid (Calls Tryz.prog 105 #[.pointer (some ⟨ob, 0, none⟩), .int .i64 j] (((Z.setCell ⟨pb, 0, none⟩ (.int .i64 8)).setCell ⟨pb, 1, none⟩ (.int .i64 0)).setCell ⟨pb, 2, none⟩ (.slice none 0 0)) fun e w' => TxPost (pcP sb hb ab kb pb) (fun q => (((Z.setCell ⟨pb, 0, none⟩ (.int .i64 8)).setCell ⟨pb, 1, none⟩ (.int .i64 0)).setCell ⟨pb, 2, none⟩ (.slice none 0 0)).heap[q]?) n₀ X ob (tnE st.1 st.2 j (cpL old)) (wpL st.2 j (cpL old)) e w') := hcm
          clear hcm hx2
          go_wp2_with fail
          refine HCm.out.mono ?_
          rintro e w3 ⟨rfl, hR3⟩
          have hI3 := HI2.out.turn hR3
          have hCf : Fine (cpL old) := fine_compact hF
          have hq8 := hqv
          clear hR3 HI2 HCm h0 a0 a1 k0 p0 p1 p2 fa0 fa1 fk fp0 fp1 fp2 gZ HI
          have hA3 := hA.turn hlt hCf
          obtain ⟨s3, hs3⟩ : ∃ s3, tnS st j (cpL old) = s3 := ⟨_, rfl⟩
          have HT : Hid (tnS st j (cpL old) = s3) := hs3
          rw [show (tnE st.1 st.2 j (cpL old), wpL st.2 j (cpL old)) = s3 from hs3] at hI3
          rw [hs3] at hA3
          have hold3 : s3.2[j]? = some (cpL old) := by rw [← hs3]; exact wpL_at (by rw [hA.l]; exact hlt)
          clear hs3
          have HI : Hid (PcI sb B n₀ X ob hb ab kb pb s3 w3) := hI3
          have HA : Hid (OkS s3 m (100 + 2 * j + 1)) := hA3
          have h0 := hI3.l.h0
          obtain ⟨y1, m1, W1, y2, m2, W2, hxx⟩ := hI3.s
          have ho := hxx.o
          rw [hA3.l] at ho
          obtain ⟨gp, ay, cy, rfl, c8, hyr, hyl⟩ := hxx.page hold3
          rw [hCf.pg.len] at c8 hyl
          have hpa := pageAt_old gp j m m2 _ w3 hlt c8
          obtain ⟨oc0, oc1, of0, of1⟩ := ho
          have hps := putSlot_f ay (cpL old) cs cy n cc (some ⟨cb, so, none⟩) w3 hCf hyl hyr hcn h1 h20 HC.out.bd (hI3.rd HC.out)
          have HPs : Hid (Calls Tryz.prog 104 #[.slice ay 64 cy, .slice (some ⟨cb, so, none⟩) n cc] w3 fun e w' => PsF (cpL old) cs n w3 e w') := hps
          clear hps hxx c8 hyr hI3 of0 of1
          go_wp2_with fail
          rw [rounds_succ]
          go_wp2_with fail
          refine hpa.mono ?_
          rintro e w4 ⟨rfl, hw4⟩; subst w4
          clear hpa oc0 oc1
          go_wp2_with fail
          refine HPs.out.mono ?_
          rintro e Z ⟨gZ, hq0, hqn⟩
          clear HPs h0
          by_cases hq2 : putQ (cpL old) n = 0
          · obtain ⟨g, rfl, hg, hA5⟩ := hq0 hq2
            have hA := hA5
            have hPf : Fine (putP (cpL old) cs) := fine_put hCf HC.out.bd (by omega) (by rw [hcn]; exact hq2)
            have HE : Hid (R = (tnS s3 j (putP (cpL old) cs), some (j, putS (cpL old)))) := by
              show _ = _
              rw [← HR.out, plS_some hlt hjx hold (sl := putS (cpL old)) (by rw [pi_two (by rw [hcn]; exact hq8) (by rw [hcn]; exact hq2)]), pi_two (by rw [hcn]; exact hq8) (by rw [hcn]; exact hq2), HT.out]
            clear hq0 hqn hA5
            obtain ⟨sl, hsl⟩ : ∃ sl, putS (cpL old) = sl := ⟨_, rfl⟩
            have HSl : Hid (putS (cpL old) = sl) := hsl
            rw [hsl]
            have hI1 := HI.out.below gZ
            obtain ⟨y1, m1, W1, y2, m2, W2, hx⟩ := HI.out.s
            have hfr := hx.fresh hg (o := 0) (n := 64) (c := 64)
            have hgb : pb < w3.heap.size := hx.ls pb (.inr (.inr (.inr (.inr rfl))))
            have hx1 := (hx.below gZ)
            have hx6 := (((((hx1.put (g := pb) (o := 0) (.inr (.inr (.inr (.inr rfl)))) (by omega) (.int .i64 0)).put (g := pb) (o := 1) (.inr (.inr (.inr (.inr rfl)))) (by omega) (.int .i64 (sl : Nat))).put (g := pb) (o := 2) (.inr (.inr (.inr (.inr rfl)))) (by omega) (.slice (some ⟨g, 0, none⟩) 64 64)).put (g := ab) (o := 0) (.inr (.inr (.inl rfl))) (by omega) (.int .i64 (j : Nat))).put (g := ab) (o := 1) (.inr (.inr (.inl rfl))) (by omega) (.int .i64 (sl : Nat))).put (g := kb) (o := 0) (.inr (.inr (.inr (.inl rfl)))) (by omega) (.bool true)
            have hA6 := (((((hA.other ⟨pb, 0, none⟩ (.int .i64 0) (by simp; omega)).other ⟨pb, 1, none⟩ (.int .i64 (sl : Nat)) (by simp; omega)).other ⟨pb, 2, none⟩ (.slice (some ⟨g, 0, none⟩) 64 64) (by simp; omega)).other ⟨ab, 0, none⟩ (.int .i64 (j : Nat)) (by simp; omega)).other ⟨ab, 1, none⟩ (.int .i64 (sl : Nat)) (by simp; omega)).other ⟨kb, 0, none⟩ (.bool true) (by simp; omega)
            have hput := putEdit_any (pcP sb hb ab kb pb) _ n₀ X ob s3.1 s3.2 y1 m1 W1 y2 m2 W2 j (some ⟨g, 0, none⟩) 64 (putP (cpL old) cs) _ hx6 (by have := HA.out.l; omega) HA.out.p.bd hPf.pg.bd hPf.pg.len (by have := HA.out.l; omega) (by have := HA.out.e; omega) (hA6.gb (by have := hx.sz; omega)) hfr.1 hfr.2
            have hbs : ∀ g', sb g' → ((((((Z.setCell ⟨pb, 0, none⟩ (.int .i64 0)).setCell ⟨pb, 1, none⟩ (.int .i64 (sl : Nat))).setCell ⟨pb, 2, none⟩ (.slice (some ⟨g, 0, none⟩) 64 64)).setCell ⟨ab, 0, none⟩ (.int .i64 (j : Nat))).setCell ⟨ab, 1, none⟩ (.int .i64 (sl : Nat))).setCell ⟨kb, 0, none⟩ (.bool true)).heap[g']? = B g' := fun g' hg' => by
              have h1 := hs g' hg'
              rw [Below.heap_setCell _ _ _ _ (by simp; omega), Below.heap_setCell _ _ _ _ (by simp; omega), Below.heap_setCell _ _ _ _ (by simp; omega), Below.heap_setCell _ _ _ _ (by simp; omega), Below.heap_setCell _ _ _ _ (by simp; omega), Below.heap_setCell _ _ _ _ (by simp; omega)]
              exact hI1.b g' hg'
            have HPut : Hid (Calls Tryz.prog 86 #[.pointer (some ⟨ob, 0, none⟩), .int .i64 j, .slice (some ⟨g, 0, none⟩) 64 64] ((((((Z.setCell ⟨pb, 0, none⟩ (.int .i64 0)).setCell ⟨pb, 1, none⟩ (.int .i64 (sl : Nat))).setCell ⟨pb, 2, none⟩ (.slice (some ⟨g, 0, none⟩) 64 64)).setCell ⟨ab, 0, none⟩ (.int .i64 (j : Nat))).setCell ⟨ab, 1, none⟩ (.int .i64 (sl : Nat))).setCell ⟨kb, 0, none⟩ (.bool true)) fun e w' => TxPost (pcP sb hb ab kb pb) (fun q => ((((((Z.setCell ⟨pb, 0, none⟩ (.int .i64 0)).setCell ⟨pb, 1, none⟩ (.int .i64 (sl : Nat))).setCell ⟨pb, 2, none⟩ (.slice (some ⟨g, 0, none⟩) 64 64)).setCell ⟨ab, 0, none⟩ (.int .i64 (j : Nat))).setCell ⟨ab, 1, none⟩ (.int .i64 (sl : Nat))).setCell ⟨kb, 0, none⟩ (.bool true)).heap[q]?) n₀ X ob (tnE s3.1 s3.2 j (putP (cpL old) cs)) (wpL s3.2 j (putP (cpL old) cs)) e w') := hput
            have HBs : Hid (∀ g', sb g' → ((((((Z.setCell ⟨pb, 0, none⟩ (.int .i64 0)).setCell ⟨pb, 1, none⟩ (.int .i64 (sl : Nat))).setCell ⟨pb, 2, none⟩ (.slice (some ⟨g, 0, none⟩) 64 64)).setCell ⟨ab, 0, none⟩ (.int .i64 (j : Nat))).setCell ⟨ab, 1, none⟩ (.int .i64 (sl : Nat))).setCell ⟨kb, 0, none⟩ (.bool true)).heap[g']? = B g') := hbs
            obtain ⟨h0, a0, a1, k0, ⟨v0, p0⟩, ⟨v1, p1⟩, ⟨v2, p2⟩, fa0, fa1, fk, fp0, fp1, fp2⟩ := hI1.l
            clear hput hbs hx6 hA6 hx1 hx hfr hI1 hA hsl
            go_wp2_with fail
            have z0 : ((((((Z.setCell ⟨pb, 0, none⟩ (.int .i64 0)).setCell ⟨pb, 1, none⟩ (.int .i64 (sl : Nat))).setCell ⟨pb, 2, none⟩ (.slice (some ⟨g, 0, none⟩) 64 64)).setCell ⟨ab, 0, none⟩ (.int .i64 (j : Nat))).setCell ⟨ab, 1, none⟩ (.int .i64 (sl : Nat))).setCell ⟨kb, 0, none⟩ (.bool true)).cell? ⟨kb, 0, none⟩ = some (.bool true) := by simp [go_sem, *]
            have z1 : ((((((Z.setCell ⟨pb, 0, none⟩ (.int .i64 0)).setCell ⟨pb, 1, none⟩ (.int .i64 (sl : Nat))).setCell ⟨pb, 2, none⟩ (.slice (some ⟨g, 0, none⟩) 64 64)).setCell ⟨ab, 0, none⟩ (.int .i64 (j : Nat))).setCell ⟨ab, 1, none⟩ (.int .i64 (sl : Nat))).setCell ⟨kb, 0, none⟩ (.bool true)).cell? ⟨hb, 0, none⟩ = some (.pointer (some ⟨ob, 0, none⟩)) := by simp [go_sem, *]
            have z2 : ((((((Z.setCell ⟨pb, 0, none⟩ (.int .i64 0)).setCell ⟨pb, 1, none⟩ (.int .i64 (sl : Nat))).setCell ⟨pb, 2, none⟩ (.slice (some ⟨g, 0, none⟩) 64 64)).setCell ⟨ab, 0, none⟩ (.int .i64 (j : Nat))).setCell ⟨ab, 1, none⟩ (.int .i64 (sl : Nat))).setCell ⟨kb, 0, none⟩ (.bool true)).cell? ⟨ab, 0, none⟩ = some (.int .i64 (j : Nat)) := by simp [go_sem, *]
            have z3 : ((((((Z.setCell ⟨pb, 0, none⟩ (.int .i64 0)).setCell ⟨pb, 1, none⟩ (.int .i64 (sl : Nat))).setCell ⟨pb, 2, none⟩ (.slice (some ⟨g, 0, none⟩) 64 64)).setCell ⟨ab, 0, none⟩ (.int .i64 (j : Nat))).setCell ⟨ab, 1, none⟩ (.int .i64 (sl : Nat))).setCell ⟨kb, 0, none⟩ (.bool true)).cell? ⟨ab, 1, none⟩ = some (.int .i64 (sl : Nat)) := by simp [go_sem, *]
            have z4 : ((((((Z.setCell ⟨pb, 0, none⟩ (.int .i64 0)).setCell ⟨pb, 1, none⟩ (.int .i64 (sl : Nat))).setCell ⟨pb, 2, none⟩ (.slice (some ⟨g, 0, none⟩) 64 64)).setCell ⟨ab, 0, none⟩ (.int .i64 (j : Nat))).setCell ⟨ab, 1, none⟩ (.int .i64 (sl : Nat))).setCell ⟨kb, 0, none⟩ (.bool true)).cell? ⟨pb, 2, none⟩ = some (.slice (some ⟨g, 0, none⟩) 64 64) := by simp [go_sem, *]
            have hput := HPut.out
            have hbs := HBs.out
            clear HPut HBs h0 a0 a1 k0 p0 p1 p2 fa0 fa1 fk fp0 fp1 fp2
            generalize ((((((Z.setCell ⟨pb, 0, none⟩ (.int .i64 0)).setCell ⟨pb, 1, none⟩ (.int .i64 (sl : Nat))).setCell ⟨pb, 2, none⟩ (.slice (some ⟨g, 0, none⟩) 64 64)).setCell ⟨ab, 0, none⟩ (.int .i64 (j : Nat))).setCell ⟨ab, 1, none⟩ (.int .i64 (sl : Nat))).setCell ⟨kb, 0, none⟩ (.bool true)) = Dw at z0 z1 z2 z3 z4 hput hbs ⊢
            refine leaves_cons (f := 102) (args := #[.pointer (some ⟨kb, 0, none⟩), .pointer (some ⟨hb, 0, none⟩), .pointer (some ⟨ab, 0, none⟩), .pointer (some ⟨pb, 0, none⟩)]) (by simp) (by simp [go_sem]) ?_
            refine (placeCl_yes kb hb ab pb ob j 64 (some ⟨g, 0, none⟩) _ .returning Dw z0 z1 z2 z4 hput).mono ?_
            rintro e u' w9 ⟨rfl, rfl, n1, l1, N1, n2, l2, N2, hx9⟩
            have y2 := (World.cell?_of_block (a := ⟨ab, 0, none⟩) (hx9.b ab (.inr (.inr (.inl rfl))))).trans z2
            have y3 := (World.cell?_of_block (a := ⟨ab, 1, none⟩) (hx9.b ab (.inr (.inr (.inl rfl))))).trans z3
            have y0 := (World.cell?_of_block (a := ⟨kb, 0, none⟩) (hx9.b kb (.inr (.inr (.inr (.inl rfl)))))).trans z0
            refine ⟨.tuple #[.agg #[.int .i64 (j : Nat), .int .i64 (sl : Nat)], .bool true], by simp [results, Tryz.results53, go_sem, y0, y2, y3], ?_⟩
            rw [show R = ((tnE s3.1 s3.2 j (putP (cpL old) cs), wpL s3.2 j (putP (cpL old) cs)), some (j, sl)) by rw [← HSl.out]; exact HE.out]
            exact ⟨rfl, _, _, _, _, _, _, hx9.less (fun g' hg' => .inl hg') hbs⟩
          · have e0 := hqn hq2
            subst e0
            have hne8 := putQ_cp hF n
            obtain ⟨q, hqv2⟩ : ∃ q, putQ (cpL old) n = q := ⟨_, rfl⟩
            have HRn : Hid (plS x cs (m - (j + 1)) (j + 1) s3 = R) := by
              show _ = _
              have h9 := plS_none (cs := cs) hlt hjx hold (by rw [pi_vain (by rw [hcn]; exact hq8) (by rw [hcn]; exact hq2)])
              rw [pi_vain (by rw [hcn]; exact hq8) (by rw [hcn]; exact hq2), HT.out] at h9
              rw [← HR.out, h9]
            rw [hqv2] at hq2 hne8 ⊢
            clear hq0 hqn hqv2
            have hI1 := HI.out.below gZ
            have hI2 := ((hI1.put (by omega) hs l1 l2 l3 0 (.int .i64 q)).put (by omega) hs l1 l2 l3 1 (.int .i64 0)).put (by omega) hs l1 l2 l3 2 (.slice none 0 0)
            have HI2 : Hid (PcI sb B n₀ X ob hb ab kb pb s3 (((Z.setCell ⟨pb, 0, none⟩ (.int .i64 q)).setCell ⟨pb, 1, none⟩ (.int .i64 0)).setCell ⟨pb, 2, none⟩ (.slice none 0 0))) := hI2
            obtain ⟨h0, a0, a1, k0, ⟨v0, p0⟩, ⟨v1, p1⟩, ⟨v2, p2⟩, fa0, fa1, fk, fp0, fp1, fp2⟩ := hI1.l
            have d0 : (q == 0) = false := by simpa using hq2
            have d8 : (q != 8) = true := by simpa using hne8
            clear hI1 hI2
            go_wp2_with fail
            go_roundw
            case rel => exact ⟨j + 1, s3, by omega, by go_num, HRn, HA.out.mono (by omega), HI2.out⟩
            case measure => simp [intOf]; omega
        · have HRn : Hid (plS x cs (m - (j + 1)) (j + 1) st = R) := by
            show _ = _
            have h9 := plS_none (cs := cs) hlt hjx hold (by rw [pi_none (by rw [hcn, hqv]; exact hq) (by rw [hcn, hqv]; exact hq8)])
            rw [pi_none (by rw [hcn, hqv]; exact hq) (by rw [hcn, hqv]; exact hq8)] at h9
            rw [← HR.out, h9]
          have d8 : (q != 8) = true := by simpa using hq8
          clear hqv
          go_wp2_with fail
          go_roundw
          case rel => exact ⟨j + 1, st, by omega, by go_num, HRn, HA.out.mono (by omega), HI2.out⟩
          case measure => simp [intOf]; omega
    · have e : j = m := by omega
      subst e
      by_cases h12 : 12 ≤ j
      · have hpa := pageAt_none j j m2 y2 wr (Nat.le_refl _) h12
        obtain ⟨oc0, oc1, of0, of1⟩ := ho
        have HE : Hid (R = (st, none)) := by
          show _ = _
          rw [← HR.out, Nat.sub_self, plS, nwS, if_pos (by rw [hA.l]; exact h12)]
        have HL : Hid (PcL wr hb ab kb pb ob) := hI.l
        have HX : Hid (HpX (pcP sb hb ab kb pb) (fun q => (((wr.setCell ⟨ab, 0, none⟩ (.int .i64 0)).setCell ⟨ab, 1, none⟩ (.int .i64 0)).setCell ⟨kb, 0, none⟩ (.bool false)).heap[q]?) n₀ X ob st.1 st.2 y1 m1 W1 y2 m2 W2 (((wr.setCell ⟨ab, 0, none⟩ (.int .i64 0)).setCell ⟨ab, 1, none⟩ (.int .i64 0)).setCell ⟨kb, 0, none⟩ (.bool false))) := ((hxx.put (g := ab) (o := 0) (.inr (.inr (.inl rfl))) (by omega) (.int .i64 0)).put (g := ab) (o := 1) (.inr (.inr (.inl rfl))) (by omega) (.int .i64 0)).put (g := kb) (o := 0) (.inr (.inr (.inr (.inl rfl)))) (by omega) (.bool false)
        have HBs : Hid (∀ g', sb g' → (((wr.setCell ⟨ab, 0, none⟩ (.int .i64 0)).setCell ⟨ab, 1, none⟩ (.int .i64 0)).setCell ⟨kb, 0, none⟩ (.bool false)).heap[g']? = B g') := fun g' hg' => by
          have h1 := hs g' hg'
          rw [Below.heap_setCell _ _ _ _ (by simp; omega), Below.heap_setCell _ _ _ _ (by simp; omega), Below.heap_setCell _ _ _ _ (by simp; omega)]
          exact hI.b g' hg'
        clear hxx hI HI of0 of1
        go_wp2_with fail
        refine wp_loop_rounds 3 ?_
        rw [rounds_succ]
        go_wp2_with fail
        refine hpa.mono ?_
        rintro e w1 ⟨rfl, hw1⟩; subst w1
        clear hpa h0 oc0 oc1
        obtain ⟨h0, a0, a1, k0, ⟨v0, p0⟩, ⟨v1, p1⟩, ⟨v2, p2⟩, fa0, fa1, fk, fp0, fp1, fp2⟩ := HL.out
        clear p0 p1 p2 fp0 fp1 fp2
        go_wp2_with fail
        have z0 : (((wr.setCell ⟨ab, 0, none⟩ (.int .i64 0)).setCell ⟨ab, 1, none⟩ (.int .i64 0)).setCell ⟨kb, 0, none⟩ (.bool false)).cell? ⟨kb, 0, none⟩ = some (.bool false) := by simp [go_sem, *]
        have z2 : (((wr.setCell ⟨ab, 0, none⟩ (.int .i64 0)).setCell ⟨ab, 1, none⟩ (.int .i64 0)).setCell ⟨kb, 0, none⟩ (.bool false)).cell? ⟨ab, 0, none⟩ = some (.int .i64 0) := by simp [go_sem, *]
        have z3 : (((wr.setCell ⟨ab, 0, none⟩ (.int .i64 0)).setCell ⟨ab, 1, none⟩ (.int .i64 0)).setCell ⟨kb, 0, none⟩ (.bool false)).cell? ⟨ab, 1, none⟩ = some (.int .i64 0) := by simp [go_sem, *]
        have hx := HX.out
        have hbs := HBs.out
        clear HX HBs h0 a0 a1 k0 fa0 fa1 fk
        generalize (((wr.setCell ⟨ab, 0, none⟩ (.int .i64 0)).setCell ⟨ab, 1, none⟩ (.int .i64 0)).setCell ⟨kb, 0, none⟩ (.bool false)) = Dw at z0 z2 z3 hx hbs ⊢
        refine leaves_cons (f := 102) (args := #[.pointer (some ⟨kb, 0, none⟩), .pointer (some ⟨hb, 0, none⟩), .pointer (some ⟨ab, 0, none⟩), .pointer (some ⟨pb, 0, none⟩)]) (by simp) (by simp [go_sem]) ?_
        refine (placeCl_no kb hb ab pb .returning Dw z0).mono ?_
        rintro e u' w9 ⟨rfl, rfl, rfl⟩
        refine ⟨.tuple #[.agg #[.int .i64 0, .int .i64 0], .bool false], by simp [results, Tryz.results53, go_sem, z0, z2, z3], ?_⟩
        rw [HE.out]
        exact ⟨rfl, _, _, _, _, _, _, hx.less (fun g' hg' => .inl hg') hbs⟩
      · have hpa := pageAt_new j j m2 y2 wr (Nat.le_refl _) (by omega)
        obtain ⟨oc0, oc1, of0, of1⟩ := ho
        have HE : Hid (R = (tnS st j (putP (newBytes 0) cs), some (j, putS (newBytes 0)))) := by
          show _ = _
          rw [← HR.out, Nat.sub_self, plS, nwS, if_neg (by rw [hA.l]; exact h12), hA.l]
        clear hxx hI of0 of1
        go_wp2_with fail
        refine wp_loop_rounds 3 ?_
        rw [rounds_succ]
        go_wp2_with fail
        refine hpa.mono ?_
        rintro e w1 ⟨rfl, g1, hA1⟩
        have HI : Hid (PcI sb B n₀ X ob hb ab kb pb st w1) := HI.out.below g1
        have hnf := fine_new 0 (by omega) (by omega)
        have hps := putSlot_f (some ⟨wr.heap.size + 1, 0, none⟩) (newBytes 0) cs 64 n cc (some ⟨cb, so, none⟩) w1 hnf (by omega) (hA1.bytes (Nat.le_refl _) (Nat.lt_succ_self _)).reads hcn h1 h20 HC.out.bd (HI.out.rd HC.out)
        have HPs : Hid (Calls Tryz.prog 104 #[.slice (some ⟨wr.heap.size + 1, 0, none⟩) 64 64, .slice (some ⟨cb, so, none⟩) n cc] w1 fun e w' => PsF (newBytes 0) cs n w1 e w') := hps
        have h0 := HI.out.l.h0
        clear hps hpa hA1 g1 oc0 oc1
        generalize wr.heap.size + 1 = gw at HPs ⊢
        go_wp2_with fail
        refine HPs.out.mono ?_
        rintro e Z ⟨gZ, hq0, hqn⟩
        clear HPs h0
        have hq := putQ_new n h20
        obtain ⟨g, rfl, hg, hA5⟩ := hq0 hq
        have hA := hA5
        have hPf : Fine (putP (newBytes 0) cs) := fine_put hnf HC.out.bd (by omega) (by rw [hcn]; exact hq)
        clear hq0 hqn hA5
        obtain ⟨sl, hsl⟩ : ∃ sl, putS (newBytes 0) = sl := ⟨_, rfl⟩
        have HSl : Hid (putS (newBytes 0) = sl) := hsl
        rw [hsl]
        have hI1 := HI.out.below gZ
        obtain ⟨y1, m1, W1, y2, m2, W2, hx⟩ := HI.out.s
        have hfr := hx.fresh hg (o := 0) (n := 64) (c := 64)
        have hgb : pb < w1.heap.size := hx.ls pb (.inr (.inr (.inr (.inr rfl))))
        have hx1 := (hx.below gZ)
        have hx6 := (((((hx1.put (g := pb) (o := 0) (.inr (.inr (.inr (.inr rfl)))) (by omega) (.int .i64 0)).put (g := pb) (o := 1) (.inr (.inr (.inr (.inr rfl)))) (by omega) (.int .i64 (sl : Nat))).put (g := pb) (o := 2) (.inr (.inr (.inr (.inr rfl)))) (by omega) (.slice (some ⟨g, 0, none⟩) 64 64)).put (g := ab) (o := 0) (.inr (.inr (.inl rfl))) (by omega) (.int .i64 (j : Nat))).put (g := ab) (o := 1) (.inr (.inr (.inl rfl))) (by omega) (.int .i64 (sl : Nat))).put (g := kb) (o := 0) (.inr (.inr (.inr (.inl rfl)))) (by omega) (.bool true)
        have hA6 := (((((hA.other ⟨pb, 0, none⟩ (.int .i64 0) (by simp; omega)).other ⟨pb, 1, none⟩ (.int .i64 (sl : Nat)) (by simp; omega)).other ⟨pb, 2, none⟩ (.slice (some ⟨g, 0, none⟩) 64 64) (by simp; omega)).other ⟨ab, 0, none⟩ (.int .i64 (j : Nat)) (by simp; omega)).other ⟨ab, 1, none⟩ (.int .i64 (sl : Nat)) (by simp; omega)).other ⟨kb, 0, none⟩ (.bool true) (by simp; omega)
        have hput := putEdit_any (pcP sb hb ab kb pb) _ n₀ X ob st.1 st.2 y1 m1 W1 y2 m2 W2 j (some ⟨g, 0, none⟩) 64 (putP (newBytes 0) cs) _ hx6 (by have := HA.out.l; omega) HA.out.p.bd hPf.pg.bd hPf.pg.len (by have := HA.out.l; omega) (by have := HA.out.e; omega) (hA6.gb (by have := hx.sz; omega)) hfr.1 hfr.2
        have hbs : ∀ g', sb g' → ((((((Z.setCell ⟨pb, 0, none⟩ (.int .i64 0)).setCell ⟨pb, 1, none⟩ (.int .i64 (sl : Nat))).setCell ⟨pb, 2, none⟩ (.slice (some ⟨g, 0, none⟩) 64 64)).setCell ⟨ab, 0, none⟩ (.int .i64 (j : Nat))).setCell ⟨ab, 1, none⟩ (.int .i64 (sl : Nat))).setCell ⟨kb, 0, none⟩ (.bool true)).heap[g']? = B g' := fun g' hg' => by
          have h1 := hs g' hg'
          rw [Below.heap_setCell _ _ _ _ (by simp; omega), Below.heap_setCell _ _ _ _ (by simp; omega), Below.heap_setCell _ _ _ _ (by simp; omega), Below.heap_setCell _ _ _ _ (by simp; omega), Below.heap_setCell _ _ _ _ (by simp; omega), Below.heap_setCell _ _ _ _ (by simp; omega)]
          exact hI1.b g' hg'
        have HPut : Hid (Calls Tryz.prog 86 #[.pointer (some ⟨ob, 0, none⟩), .int .i64 j, .slice (some ⟨g, 0, none⟩) 64 64] ((((((Z.setCell ⟨pb, 0, none⟩ (.int .i64 0)).setCell ⟨pb, 1, none⟩ (.int .i64 (sl : Nat))).setCell ⟨pb, 2, none⟩ (.slice (some ⟨g, 0, none⟩) 64 64)).setCell ⟨ab, 0, none⟩ (.int .i64 (j : Nat))).setCell ⟨ab, 1, none⟩ (.int .i64 (sl : Nat))).setCell ⟨kb, 0, none⟩ (.bool true)) fun e w' => TxPost (pcP sb hb ab kb pb) (fun q => ((((((Z.setCell ⟨pb, 0, none⟩ (.int .i64 0)).setCell ⟨pb, 1, none⟩ (.int .i64 (sl : Nat))).setCell ⟨pb, 2, none⟩ (.slice (some ⟨g, 0, none⟩) 64 64)).setCell ⟨ab, 0, none⟩ (.int .i64 (j : Nat))).setCell ⟨ab, 1, none⟩ (.int .i64 (sl : Nat))).setCell ⟨kb, 0, none⟩ (.bool true)).heap[q]?) n₀ X ob (tnE st.1 st.2 j (putP (newBytes 0) cs)) (wpL st.2 j (putP (newBytes 0) cs)) e w') := hput
        have HBs : Hid (∀ g', sb g' → ((((((Z.setCell ⟨pb, 0, none⟩ (.int .i64 0)).setCell ⟨pb, 1, none⟩ (.int .i64 (sl : Nat))).setCell ⟨pb, 2, none⟩ (.slice (some ⟨g, 0, none⟩) 64 64)).setCell ⟨ab, 0, none⟩ (.int .i64 (j : Nat))).setCell ⟨ab, 1, none⟩ (.int .i64 (sl : Nat))).setCell ⟨kb, 0, none⟩ (.bool true)).heap[g']? = B g') := hbs
        obtain ⟨h0, a0, a1, k0, ⟨v0, p0⟩, ⟨v1, p1⟩, ⟨v2, p2⟩, fa0, fa1, fk, fp0, fp1, fp2⟩ := hI1.l
        clear hput hbs hx6 hA6 hx1 hx hfr hI1 hA hsl
        go_wp2_with fail
        have z0 : ((((((Z.setCell ⟨pb, 0, none⟩ (.int .i64 0)).setCell ⟨pb, 1, none⟩ (.int .i64 (sl : Nat))).setCell ⟨pb, 2, none⟩ (.slice (some ⟨g, 0, none⟩) 64 64)).setCell ⟨ab, 0, none⟩ (.int .i64 (j : Nat))).setCell ⟨ab, 1, none⟩ (.int .i64 (sl : Nat))).setCell ⟨kb, 0, none⟩ (.bool true)).cell? ⟨kb, 0, none⟩ = some (.bool true) := by simp [go_sem, *]
        have z1 : ((((((Z.setCell ⟨pb, 0, none⟩ (.int .i64 0)).setCell ⟨pb, 1, none⟩ (.int .i64 (sl : Nat))).setCell ⟨pb, 2, none⟩ (.slice (some ⟨g, 0, none⟩) 64 64)).setCell ⟨ab, 0, none⟩ (.int .i64 (j : Nat))).setCell ⟨ab, 1, none⟩ (.int .i64 (sl : Nat))).setCell ⟨kb, 0, none⟩ (.bool true)).cell? ⟨hb, 0, none⟩ = some (.pointer (some ⟨ob, 0, none⟩)) := by simp [go_sem, *]
        have z2 : ((((((Z.setCell ⟨pb, 0, none⟩ (.int .i64 0)).setCell ⟨pb, 1, none⟩ (.int .i64 (sl : Nat))).setCell ⟨pb, 2, none⟩ (.slice (some ⟨g, 0, none⟩) 64 64)).setCell ⟨ab, 0, none⟩ (.int .i64 (j : Nat))).setCell ⟨ab, 1, none⟩ (.int .i64 (sl : Nat))).setCell ⟨kb, 0, none⟩ (.bool true)).cell? ⟨ab, 0, none⟩ = some (.int .i64 (j : Nat)) := by simp [go_sem, *]
        have z3 : ((((((Z.setCell ⟨pb, 0, none⟩ (.int .i64 0)).setCell ⟨pb, 1, none⟩ (.int .i64 (sl : Nat))).setCell ⟨pb, 2, none⟩ (.slice (some ⟨g, 0, none⟩) 64 64)).setCell ⟨ab, 0, none⟩ (.int .i64 (j : Nat))).setCell ⟨ab, 1, none⟩ (.int .i64 (sl : Nat))).setCell ⟨kb, 0, none⟩ (.bool true)).cell? ⟨ab, 1, none⟩ = some (.int .i64 (sl : Nat)) := by simp [go_sem, *]
        have z4 : ((((((Z.setCell ⟨pb, 0, none⟩ (.int .i64 0)).setCell ⟨pb, 1, none⟩ (.int .i64 (sl : Nat))).setCell ⟨pb, 2, none⟩ (.slice (some ⟨g, 0, none⟩) 64 64)).setCell ⟨ab, 0, none⟩ (.int .i64 (j : Nat))).setCell ⟨ab, 1, none⟩ (.int .i64 (sl : Nat))).setCell ⟨kb, 0, none⟩ (.bool true)).cell? ⟨pb, 2, none⟩ = some (.slice (some ⟨g, 0, none⟩) 64 64) := by simp [go_sem, *]
        have hput := HPut.out
        have hbs := HBs.out
        clear HPut HBs h0 a0 a1 k0 p0 p1 p2 fa0 fa1 fk fp0 fp1 fp2
        generalize ((((((Z.setCell ⟨pb, 0, none⟩ (.int .i64 0)).setCell ⟨pb, 1, none⟩ (.int .i64 (sl : Nat))).setCell ⟨pb, 2, none⟩ (.slice (some ⟨g, 0, none⟩) 64 64)).setCell ⟨ab, 0, none⟩ (.int .i64 (j : Nat))).setCell ⟨ab, 1, none⟩ (.int .i64 (sl : Nat))).setCell ⟨kb, 0, none⟩ (.bool true)) = Dw at z0 z1 z2 z3 z4 hput hbs ⊢
        refine leaves_cons (f := 102) (args := #[.pointer (some ⟨kb, 0, none⟩), .pointer (some ⟨hb, 0, none⟩), .pointer (some ⟨ab, 0, none⟩), .pointer (some ⟨pb, 0, none⟩)]) (by simp) (by simp [go_sem]) ?_
        refine (placeCl_yes kb hb ab pb ob j 64 (some ⟨g, 0, none⟩) _ .returning Dw z0 z1 z2 z4 hput).mono ?_
        rintro e u' w9 ⟨rfl, rfl, n1, l1, N1, n2, l2, N2, hx9⟩
        have y2 := (World.cell?_of_block (a := ⟨ab, 0, none⟩) (hx9.b ab (.inr (.inr (.inl rfl))))).trans z2
        have y3 := (World.cell?_of_block (a := ⟨ab, 1, none⟩) (hx9.b ab (.inr (.inr (.inl rfl))))).trans z3
        have y0 := (World.cell?_of_block (a := ⟨kb, 0, none⟩) (hx9.b kb (.inr (.inr (.inr (.inl rfl)))))).trans z0
        refine ⟨.tuple #[.agg #[.int .i64 (j : Nat), .int .i64 (sl : Nat)], .bool true], by simp [results, Tryz.results53, go_sem, y0, y2, y3], ?_⟩
        rw [show R = ((tnE st.1 st.2 j (putP (newBytes 0) cs), wpL st.2 j (putP (newBytes 0) cs)), some (j, sl)) by rw [← HSl.out]; exact HE.out]
        exact ⟨rfl, _, _, _, _, _, _, hx9.less (fun g' hg' => .inl hg') hbs⟩


section
variable {n₀ : Nat} {X : World} {ob : Nat} {es : List (Int × List Int)} {ps : List (List Int)} {V V' : World} {P P' : Nat → Prop}
/-- New blocks beside what is turned. -/
theorem R3.more (h : R3 n₀ X ob es ps V) (hb : Below V.heap.size V V') (hP : ∀ g, P g → V.heap.size ≤ g ∧ g < V'.heap.size) : R3X P (fun g => V'.heap[g]?) n₀ X ob es ps V' := by
  obtain ⟨x1, k1, V1, x2, k2, V2, h⟩ := h
  refine ⟨x1, k1, V1, x2, k2, V2, h.below hb, fun q hq hh => ?_, fun q hq hh => ?_, fun q hq e => ?_, fun _ _ => rfl, fun q hq => (hP q hq).2⟩
  · have := (h.a.e.lt hh).2; have := hP q hq; omega
  · have := (h.a.p.lt hh).2; have := hP q hq; omega
  · have := h.o.lt; have := hP q hq; omega
theorem R3X.ext (h : R3X P (fun g => V.heap[g]?) n₀ X ob es ps V) (hb : Below V.heap.size V V') {x : Nat} (hx : V.heap.size ≤ x) (hl : x < V'.heap.size) : R3X (fun g => P g ∨ g = x) (fun g => V'.heap[g]?) n₀ X ob es ps V' := by
  obtain ⟨x1, k1, V1, x2, k2, V2, h⟩ := h
  exact ⟨_, _, _, _, _, _, h.more hb (fun g hg => by rcases hg with h1 | h1; exact .inl h1; exact .inr (by omega))⟩
theorem R3X.exts {B : Nat → Option Obj} (h : R3X P B n₀ X ob es ps V) (hb : Below V.heap.size V V') (hP : ∀ g, P' g → P g ∨ (V.heap.size ≤ g ∧ g < V'.heap.size)) : R3X P' (fun g => V'.heap[g]?) n₀ X ob es ps V' := by
  obtain ⟨x1, k1, V1, x2, k2, V2, h⟩ := h
  exact ⟨_, _, _, _, _, _, h.more hb hP⟩
theorem R3X.now' {B : Nat → Option Obj} (h : R3X P B n₀ X ob es ps V) : R3X P (fun g => V.heap[g]?) n₀ X ob es ps V := by
  obtain ⟨x1, k1, V1, x2, k2, V2, h⟩ := h
  exact ⟨_, _, _, _, _, _, h.now⟩
theorem R3X.less' (h : R3X P (fun g => V.heap[g]?) n₀ X ob es ps V) (hP : ∀ g, P' g → P g) : R3X P' (fun g => V.heap[g]?) n₀ X ob es ps V := by
  obtain ⟨x1, k1, V1, x2, k2, V2, h⟩ := h
  exact ⟨_, _, _, _, _, _, h.less hP (fun _ _ => rfl)⟩
theorem R3X.plain {B : Nat → Option Obj} (h : R3X P B n₀ X ob es ps V) : R3 n₀ X ob es ps V := by
  obtain ⟨x1, k1, V1, x2, k2, V2, h⟩ := h
  exact ⟨_, _, _, _, _, _, h.toHpS⟩
theorem R3X.blk {B : Nat → Option Obj} (h : R3X P B n₀ X ob es ps V) : ∀ g, P g → V.heap[g]? = B g := by
  obtain ⟨x1, k1, V1, x2, k2, V2, h⟩ := h
  exact h.b
theorem R3X.lts {B : Nat → Option Obj} (h : R3X P B n₀ X ob es ps V) : ∀ g, P g → g < V.heap.size := by
  obtain ⟨x1, k1, V1, x2, k2, V2, h⟩ := h
  exact h.ls
theorem R3X.put {B : Nat → Option Obj} (h : R3X P B n₀ X ob es ps V) {g : Nat} (o : Nat) (hg : P g) (hn : n₀ ≤ g) (u : Value) : R3X P (fun q => (V.setCell ⟨g, o, none⟩ u).heap[q]?) n₀ X ob es ps (V.setCell ⟨g, o, none⟩ u) := by
  obtain ⟨x1, k1, V1, x2, k2, V2, h⟩ := h
  exact ⟨_, _, _, _, _, _, h.put hg hn u⟩
theorem R3X.below' {B : Nat → Option Obj} (h : R3X P B n₀ X ob es ps V) (hb : Below V.heap.size V V') : R3X P B n₀ X ob es ps V' := by
  obtain ⟨x1, k1, V1, x2, k2, V2, h⟩ := h
  exact ⟨_, _, _, _, _, _, h.below hb⟩
end
theorem cx_at {P : Nat → Prop} {lo hi g n : Nat} {V : World} {cs : List Int} (hg : P g) (h : BytesIn lo hi V (some ⟨g, 0, none⟩) cs) (hn : cs.length = n) (h1 : 1 ≤ n) (h20 : n ≤ 20) (bd : ∀ z ∈ cs, 0 ≤ z ∧ z ≤ 255) : Cx P g 0 (fun q => V.heap[q]?) cs n := ⟨hg, hn, h1, h20, bd, V, rfl, h.reads⟩
theorem Cx.mono {P P' : Nat → Prop} {g so n : Nat} {B : Nat → Option Obj} {cs : List Int} (h : Cx P g so B cs n) {B' : Nat → Option Obj} (hg : P' g) (hB : B' g = B g) : Cx P' g so B' cs n := by
  obtain ⟨W, hW, hr⟩ := h.rd
  exact ⟨hg, h.ln, h.h1, h.h20, h.bd, W, hW.trans hB.symm, hr⟩

/-- moveRow's own variables. -/
structure MvC (ab mb rb pn sn hp hs : Nat) (t k v : Int) (s : ByteArray) (V : World) : Prop where
  a0 : V.cell? ⟨ab, 0, none⟩ = some (.int .i64 pn)
  a1 : V.cell? ⟨ab, 1, none⟩ = some (.int .i64 sn)
  m0 : V.cell? ⟨mb, 0, none⟩ = some (.int .i64 hp)
  m1 : V.cell? ⟨mb, 1, none⟩ = some (.int .i64 hs)
  r0 : V.cell? ⟨rb, 0, none⟩ = some (.int .i64 t)
  r1 : V.cell? ⟨rb, 1, none⟩ = some (.int .i64 k)
  r2 : V.cell? ⟨rb, 2, none⟩ = some (.int .i64 v)
  r3 : V.cell? ⟨rb, 3, none⟩ = some (.string s)
section
variable {ab mb rb pn sn hp hs : Nat} {t k v : Int} {s : ByteArray} {V V' : World}
theorem MvC.keep (h : MvC ab mb rb pn sn hp hs t k v s V) (ha : V'.heap[ab]? = V.heap[ab]?) (hm : V'.heap[mb]? = V.heap[mb]?) (hr : V'.heap[rb]? = V.heap[rb]?) : MvC ab mb rb pn sn hp hs t k v s V' :=
  ⟨(World.cell?_of_block (a := ⟨ab, 0, none⟩) ha).trans h.a0, (World.cell?_of_block (a := ⟨ab, 1, none⟩) ha).trans h.a1, (World.cell?_of_block (a := ⟨mb, 0, none⟩) hm).trans h.m0, (World.cell?_of_block (a := ⟨mb, 1, none⟩) hm).trans h.m1, (World.cell?_of_block (a := ⟨rb, 0, none⟩) hr).trans h.r0, (World.cell?_of_block (a := ⟨rb, 1, none⟩) hr).trans h.r1, (World.cell?_of_block (a := ⟨rb, 2, none⟩) hr).trans h.r2, (World.cell?_of_block (a := ⟨rb, 3, none⟩) hr).trans h.r3⟩
theorem MvC.lts (h : MvC ab mb rb pn sn hp hs t k v s V) : ab < V.heap.size ∧ mb < V.heap.size ∧ rb < V.heap.size := ⟨World.block_lt_of_cell? V _ h.a0, World.block_lt_of_cell? V _ h.m0, World.block_lt_of_cell? V _ h.r0⟩
theorem MvC.up (h : MvC ab mb rb pn sn hp hs t k v s V) (hb : Below V.heap.size V V') : MvC ab mb rb pn sn hp hs t k v s V' := by
  obtain ⟨h1, h2, h3⟩ := h.lts
  exact h.keep (hb.block _ h1) (hb.block _ h2) (hb.block _ h3)
theorem MvC.put (h : MvC ab mb rb pn sn hp hs t k v s V) {tb : Nat} (n1 : ab ≠ tb) (n2 : mb ≠ tb) (n3 : rb ≠ tb) (o : Nat) (u : Value) : MvC ab mb rb pn sn hp hs t k v s (V.setCell ⟨tb, o, none⟩ u) :=
  h.keep (Below.heap_setCell _ _ _ _ (by simpa using n1)) (Below.heap_setCell _ _ _ _ (by simpa using n2)) (Below.heap_setCell _ _ _ _ (by simpa using n3))
end

end Go.Proofs.YtnfolgoloaeanaaGreat

