/-
  The program's pageAt and turnPage.
-/
import Derived.Test.YteebbaleejbodaaARArn
import Derived.Test.YteebbaleejbodaaARMae
import Derived.Test.YteebbaleejbodaaARRec

namespace Go.Proofs.Yteebbaleejbodaa
open Go.RowKit
set_option linter.unusedVariables false
set_option maxRecDepth 20000

set_option maxHeartbeats 1000000 in
theorem pageAt_old (gp pn n k : Nat) (y : Value) (w : World) (hp : pn < n) (hc : w.cell? ⟨gp, pn, none⟩ = some y) :
    Calls Try.prog 132 #[.slice (some ⟨gp, 0, none⟩) n k, .int .i64 pn] w fun e w' => e = .returned (.tuple #[y, .bool true]) ∧ w' = w := by
  have hpi : (pn : Int) < (n : Int) := by omega
  go_enter Try.func132, Try.ntmps132
  go_wp2_with fail
  refine bodyPost_ret (v := .tuple #[y, .bool true]) (by simp [results, Try.results132, go_sem]) rfl ?_
  exact ⟨rfl, rfl⟩
set_option maxHeartbeats 1000000 in
theorem pageAt_new (pn n k : Nat) (x : Option Addr) (w : World) (hp : n ≤ pn) (h12 : pn < 12) :
    Calls Try.prog 132 #[.slice x n k, .int .i64 pn] w fun e w' => e = .returned (.tuple #[.slice (some ⟨w.heap.size + 1, 0, none⟩) 64 64, .bool true]) ∧ Below w.heap.size w w' ∧ Arr w' (w.heap.size + 1) (newBytes 0) := by
  have fp2 : ∀ (q s : Int) (p : Option Addr) (n c : Nat) (W : World), (Instr.field 235 (.agg #[.int .i64 q, .int .i64 s, .slice p n c]) 2).run Try.prog W = .ok (.slice p n c) W := fun _ _ _ _ _ _ => by kernel_rfl
  have hpi : ¬ (pn : Int) < (n : Int) := by omega
  have hpj : (pn : Int) < 12 := by omega
  go_enter Try.func132, Try.ntmps132
  go_wp2_with fail
  refine (implNewPage_any 0 _).mono ?_
  rintro e w1 ⟨rfl, g1, hA⟩
  go_wp2_with fail
  refine bodyPost_ret (v := .tuple #[.slice (some ⟨w.heap.size + 1, 0, none⟩) 64 64, .bool true]) (by simp [results, Try.results132, go_sem]) rfl ?_
  exact ⟨rfl, g1, hA⟩

/-- The page that a record speaks of. -/
def pgOf (ps : List (List Int)) (p : Nat) : List Int := ps.getD p (newBytes 0)
/-- What turnPage hands back. -/
def TpPost (n₀ : Nat) (ps : List (List Int)) (pg : Nat) (P : Nat → Int) (Z : Nat → List Int) (m : Nat) (w : World) (e : Ending) (w' : World) : Prop :=
  (ps.length < pg → e = .returned (.tuple #[.slice none 0 0, .int .i64 1]) ∧ Below n₀ w w') ∧ (pg ≤ ps.length → ∃ v' V', e = .returned (.tuple #[v', .int .i64 0]) ∧ Below n₀ w w' ∧ PgB n₀ w' v' (wpL ps pg (apP (pgOf ps pg) P Z m)) V' ∧ SepV V')

set_option maxHeartbeats 4000000 in
theorem turnPage_any (n₀ : Nat) (x : Option Addr) (n k : Nat) (ps : List (List Int)) (V : List Value) (pg : Nat) (a : Option Addr) (m c : Nat) (P : Nat → Int) (A : Nat → Option Addr) (C : Nat → Nat) (Z : Nat → List Int) (w : World) (hn : ps.length = n) (h12 : n ≤ 12) (hp11 : pg ≤ 11) (h64 : ∀ zs ∈ ps, zs.length = 64) (hP : PgB n₀ w (.slice x n k) ps V) (hS : SepV V) (hb : n₀ ≤ w.heap.size) (hm : m ≤ 1048576) (hz : ∀ i, i < m → (Z i).length ≤ 1048576) (hr : RunsRead w a m P A C Z) (hq : rfQ m P Z = 0) :
    Calls Try.prog 82 #[.slice x n k, .int .i64 pg, .slice a m c] w fun e w' => TpPost n₀ ps pg P Z m w e w' := by
  have fp1 : ∀ (q : Int) (p : Option Addr) (n c : Nat) (W : World), (Instr.field 188 (.agg #[.int .i64 q, .slice p n c]) 1).run Try.prog W = .ok (.slice p n c) W := fun _ _ _ _ _ => by kernel_rfl
  by_cases hgt : n < pg
  · have hi : (n : Int) < (pg : Int) := by omega
    have HF : Hid (∀ w', Below n₀ w w' → TpPost n₀ ps pg P Z m w (.returned (.tuple #[.slice none 0 0, .int .i64 1])) w') := fun w' g => ⟨fun _ => ⟨rfl, g⟩, fun h => by omega⟩
    clear hP hS hr hq hz h64
    go_enter Try.func82, Try.ntmps82
    go_wp2_with fail
    refine bodyPost_ret (v := .tuple #[.slice none 0 0, .int .i64 1]) (by simp [results, Try.results82, go_sem]) rfl ?_
    exact HF.out _ (Below.refl _ _)
  have hi : ¬ ((n : Int) < (pg : Int)) := by omega
  obtain ⟨old, hold⟩ : ∃ old, pgOf ps pg = old := ⟨_, rfl⟩
  have hl64 : old.length = 64 := by
    rw [← hold]
    unfold pgOf
    rw [List.getD_eq_getElem?_getD]
    cases hx : ps[pg]? with
    | none => rfl
    | some zs => exact h64 zs (List.mem_of_getElem? hx)
  have hapq : apQ old m P Z = 0 := by unfold apQ; rw [if_pos hl64]; exact hq
  -- what comes behind the page was found
  have HWp : Hid (∀ (W : World) (g : Nat) (u : Nat), Below w.heap.size w W → w.heap.size < g → Arr W g (apP old P Z m) → Calls Try.prog 133 #[.slice x n k, .int .i64 pg, .slice (some ⟨g, 0, none⟩) 64 64] W fun e w' => WpPost n₀ (.slice x n k) (wpL ps pg (apP old P Z m)) V (.slice (some ⟨g, 0, none⟩) 64 64) W e w') := fun W g u hW hg hA => withPage_any n₀ x n k pg ps V (some ⟨g, 0, none⟩) 64 64 (apP old P Z m) W hn (by omega) (by omega) (hP.below hW) hS (hA.gb (by omega)) (fun y hy g' e1 e2 => by
      have h1 := (hP.lt (.inr ⟨y, hy, e2⟩)).2
      simp [Value.ownBlock] at e1
      omega) (Nat.le_trans hb hW.size)
  have HAr : Hid (∀ (W : World) (ay : Option Addr) (cy : Nat), Below w.heap.size w W → Reads W ay old → Calls Try.prog 134 #[.slice ay 64 cy, .slice a m c] W fun e w' => ∃ g, e = .returned (.agg #[.int .i64 0, .slice (some ⟨g, 0, none⟩) 64 64]) ∧ Below W.heap.size W w' ∧ W.heap.size < g ∧ Arr w' g (apP old P Z m)) := fun W ay cy hW hRd => implApplyRunsA_any ay old 64 cy a m c P A C Z W hl64 (by omega) hRd hm hz (hr.below hW (Nat.le_refl _)) hapq
  have HFin : Hid (∀ (W0 : World) (v : Value) (w' : World) (u : Value), Below n₀ w W0 → WpPost n₀ (.slice x n k) (wpL ps pg (apP old P Z m)) V u W0 (.returned v) w' → TpPost n₀ ps pg P Z m w (.returned (.tuple #[v, .int .i64 0])) w') := fun W0 v w' u g0 h => by
    obtain ⟨v', V', e, g, hP', hS', _⟩ := h
    injection e with e
    subst e
    exact ⟨fun h => by omega, fun _ => ⟨_, V', rfl, g0.trans g, by rw [hold]; exact hP', hS'⟩⟩
  have hnum : (pg : Int) < 12 := by omega
  by_cases hlt : pg < n
  · obtain ⟨a0, c0, e0, o⟩ := hP.own hS
    injection e0 with e1 e2 e3
    subst e1
    rcases o with o | ⟨gp, Aq, Cq, Fq, rfl, o⟩
    · rw [o] at hn; simp at hn; omega
    have hc := o.c1 pg (by omega)
    have hz0 : pZ ps pg = old := by
      rw [← hold]
      unfold pZ pgOf
      rw [List.getD_eq_getElem?_getD, List.getD_eq_getElem?_getD, List.getElem?_eq_getElem (by omega)]
      rfl
    have hrd : Reads w (Aq pg) old := by rw [← hz0]; exact (o.by' pg (by omega)).reads
    rw [hz0, hl64] at hc
    have hpa := pageAt_old gp pg n k _ w hlt hc
    clear hP hS hr hq hz h64 o hc hz0 hold e2 e3 hn hl64 hapq
    go_enter Try.func82, Try.ntmps82
    go_wp2_with fail
    refine hpa.mono ?_
    rintro e w1 ⟨rfl, hw1⟩; subst w1
    have har := HAr.out w (Aq pg) (Cq pg) (Below.refl _ _) hrd
    clear hpa hrd HAr
    go_wp2_with fail
    refine har.mono ?_
    rintro e W2 ⟨g, rfl, g2, hg, hA⟩
    have hwp := HWp.out W2 g 0 g2 hg hA
    have g2' : Below n₀ w W2 := g2.mono hb
    clear har g2 hg hA HWp
    go_wp2_with fail
    refine hwp.mono ?_
    intro e W3 hp3
    obtain ⟨v', hv'⟩ : ∃ v', e = .returned v' := by obtain ⟨v', V', e', _⟩ := hp3; exact ⟨v', e'⟩
    subst hv'
    have HF := HFin.out _ _ _ _ g2' hp3
    have HF : Hid (TpPost n₀ ps pg P Z m w (.returned (.tuple #[v', .int .i64 0])) W3) := HF
    clear hwp hp3 HFin
    go_wp2_with fail
    refine bodyPost_ret (v := .tuple #[v', .int .i64 0]) (by simp [results, Try.results82, go_sem]) rfl ?_
    exact HF.out
  · have hpn : pg = n := by omega
    have hpa := pageAt_new pg n k x w (by omega) (by omega)
    have hnew : newBytes 0 = old := by
      rw [← hold]
      unfold pgOf
      rw [List.getD_eq_getElem?_getD, List.getElem?_eq_none (by omega)]
      rfl
    rw [hnew] at hpa
    clear hP hS hr hq hz h64 hold hnew hn hl64 hapq
    have hpn1 : ¬ ((pg : Int) < (n : Int)) := by omega
    clear hpn
    go_enter Try.func82, Try.ntmps82
    go_wp2_with fail
    refine hpa.mono ?_
    rintro e w1 ⟨rfl, g1, hA1⟩
    have har := HAr.out w1 (some ⟨w.heap.size + 1, 0, none⟩) 64 g1 (hA1.bytes (Nat.le_refl _) (Nat.lt_succ_self _)).reads
    clear hpa HAr hA1
    go_wp2_with fail
    refine har.mono ?_
    rintro e W2 ⟨g, rfl, g2, hg, hA⟩
    have hg1 := g1.size
    have g2 : Below w.heap.size w W2 := g1.trans (g2.mono g1.size)
    have hwp := HWp.out W2 g 0 g2 (by omega) hA
    have g2' : Below n₀ w W2 := g2.mono hb
    clear har g2 hg hA HWp g1
    go_wp2_with fail
    refine hwp.mono ?_
    intro e W3 hp3
    obtain ⟨v', hv'⟩ : ∃ v', e = .returned v' := by obtain ⟨v', V', e', _⟩ := hp3; exact ⟨v', e'⟩
    subst hv'
    have HF := HFin.out _ _ _ _ g2' hp3
    have HF : Hid (TpPost n₀ ps pg P Z m w (.returned (.tuple #[v', .int .i64 0])) W3) := HF
    clear hwp hp3 HFin
    go_wp2_with fail
    refine bodyPost_ret (v := .tuple #[v', .int .i64 0]) (by simp [results, Try.results82, go_sem]) rfl ?_
    exact HF.out

end Go.Proofs.Yteebbaleejbodaa
