/-
  The model's l7PutIn: a cell put into a page, which may be compacted for it.
-/
import Derived.Test.YtnfolgoloaeanaaGreatIDpc
import Derived.Test.YtnfolgoloaeanaaGreatILpq
import Derived.Test.YtnfolgoloaeanaaGreatIRowC
import Derived.Test.YtnfolgoloaeanaaGreatIBy
import Derived.Test.YtnfolgoloaeanaaGreatIUnpI
import Derived.Lib.AppendStr
import Derived.Lib.SmallJoins
import Derived.Deep.RegionHeld

namespace Go.Proofs.YtnfolgoloaeanaaGreat
open Go.RowKit
set_option linter.unusedVariables false
set_option maxRecDepth 20000

theorem HpS.page {n₀ : Nat} {X : World} {ob : Nat} {es : List (Int × List Int)} {cur : List (List Int)} {x1 : Option Addr} {k1 : Nat} {V1 : List Value} {x2 : Option Addr} {k2 : Nat} {V2 : List Value} {V : World} (h : HpS n₀ X ob es cur x1 k1 V1 x2 k2 V2 V) {pn : Nat} {old : List Int} (hp : cur[pn]? = some old) : ∃ gp ay cy, x2 = some ⟨gp, 0, none⟩ ∧ V.cell? ⟨gp, pn, none⟩ = some (.slice ay old.length cy) ∧ Reads V ay old ∧ old.length ≤ cy := by
  have hpl : pn < cur.length := (List.getElem?_eq_some_iff.1 hp).1
  obtain ⟨gp, hx2⟩ : ∃ gp, x2 = some ⟨gp, 0, none⟩ := by
    rcases h.a.p.row.2 with ⟨_, h0⟩ | ⟨gp, cap, cu, e, _⟩
    · omega
    · cases e; exact ⟨gp, rfl⟩
  subst hx2
  obtain ⟨y0, hy0⟩ : ∃ y, V2[pn]? = some y := ⟨_, List.getElem?_eq_getElem (by rw [h.a.p.len]; omega)⟩
  have hyb := h.a.p.by' pn y0 old hy0 hp
  obtain ⟨ay, cy, hye, hle⟩ := hyb.shape
  subst hye
  have c8 := h.a.p.row.cellAt pn (by omega)
  rw [hy0] at c8
  exact ⟨gp, ay, cy, rfl, c8, hyb.rd, hle.1⟩

/-- A cell in block cb, one of sb. -/
structure Cx (sb : Nat → Prop) (cb so : Nat) (B : Nat → Option Obj) (cs : List Int) (n : Nat) : Prop where
  i : sb cb
  ln : cs.length = n
  h1 : 1 ≤ n
  h20 : n ≤ 20
  bd : ∀ z ∈ cs, 0 ≤ z ∧ z ≤ 255
  rd : ∃ W : World, W.heap[cb]? = B cb ∧ Reads W (some ⟨cb, so, none⟩) cs

/-- What l2Put hands back. -/
def PqPost (zs cs : List Int) (n : Nat) (w : World) (e : Ending) (w' : World) : Prop := Below w.heap.size w w' ∧ (putQ zs n = 0 → ∃ g dd, e = .returned (.tuple #[.slice (some ⟨g, 0, none⟩) 64 dd, .int .i64 (putS zs), .int .i64 0]) ∧ 64 ≤ dd ∧ w.heap.size ≤ g ∧ Sl64 w' g (putP zs cs)) ∧ (putQ zs n ≠ 0 → e = .returned (.tuple #[.slice none 0 0, .int .i64 0, .int .i64 (putQ zs n)]))
theorem l2Put_q (a : Option Addr) (zs cs : List Int) (c cb so n d : Nat) (w : World) (hr : Reads w a zs) (h : Fine zs) (hn : cs.length = n) (h1 : 1 ≤ n) (h20 : n ≤ 20) (hcell : Reads w (some ⟨cb, so, none⟩) cs) :
    Calls Tryz.prog 146 #[.slice a 64 c, .slice (some ⟨cb, so, none⟩) n d] w fun e w' => PqPost zs cs n w e w' := by
  by_cases hs : putS zs = nb zs 0 ∧ 16 ≤ nb zs 0
  · have hq : putQ zs n = 2 := by unfold putQ; rw [if_pos hs]
    refine (l2Put_many a zs c _ n d w hr h hs).mono ?_
    rintro e w' ⟨rfl, rfl⟩
    exact ⟨Below.refl _ _, fun e => by rw [hq] at e; exact absurd e (by decide), fun _ => by rw [hq]⟩
  · by_cases hfull : freeN zs < n + putMore zs ∨ nb zs 1 < n + (2 + 2 * putM zs)
    · have hq : putQ zs n = if freeN zs < n + putMore zs then 9 else 8 := by
        unfold putQ
        rw [if_neg hs]
        split
        · rfl
        · rename_i h2
          rw [if_pos (by rcases hfull with h3 | h3; exact absurd h3 h2; exact h3)]
      have hq0 : putQ zs n ≠ 0 := by rw [hq]; split <;> decide
      refine (l2Put_full a zs c _ n d w hr h (by omega) hs hfull).mono ?_
      rintro e w' ⟨rfl, rfl⟩
      exact ⟨Below.refl _ _, fun e => absurd e hq0, fun _ => by rw [hq]⟩
    · have hq : putQ zs n = 0 := by
        unfold putQ
        rw [if_neg hs, if_neg (fun h => hfull (.inl h)), if_neg (fun h => hfull (.inr h))]
      refine (l2Put_cap a zs cs c cb so n d w hr h hn h1 hcell hq).mono ?_
      rintro e w' ⟨g, dd, rfl, h64, hb, hg, hs64⟩
      exact ⟨hb, fun _ => ⟨g, dd, rfl, h64, hg, hs64⟩, fun e => absurd hq e⟩

/-- What l7PutIn hands back. -/
def PiPost (sb : Nat → Prop) (B : Nat → Option Obj) (n₀ : Nat) (X : World) (ob : Nat) (r : St × Option Nat) (e : Ending) (V : World) : Prop := e = .returned (.tuple #[.int .i64 ((r.2.getD 0 : Nat) : Int), .bool r.2.isSome]) ∧ R3X sb B n₀ X ob r.1.1 r.1.2 V

/-- New bytes are fresh. -/
theorem HpX.fresh {sb : Nat → Prop} {B : Nat → Option Obj} {n₀ : Nat} {X : World} {ob : Nat} {es : List (Int × List Int)} {cur : List (List Int)} {x1 : Option Addr} {k1 : Nat} {V1 : List Value} {x2 : Option Addr} {k2 : Nat} {V2 : List Value} {V : World} (h : HpX sb B n₀ X ob es cur x1 k1 V1 x2 k2 V2 V) {g : Nat} (hg : V.heap.size ≤ g) {o n c : Nat} : (∀ q, (Value.slice (some ⟨g, o, none⟩) n c).ownBlock = some q → ¬ blkP (.slice x1 es.length k1) V1 q ∧ ¬ blkP (.slice x2 cur.length k2) V2 q ∧ q ≠ ob) ∧ (∀ q, (Value.slice (some ⟨g, o, none⟩) n c).ownBlock = some q → ¬ sb q) := by
  have ho := h.o.lt
  have hs := h.ls
  refine ⟨fun q e => ?_, fun q e hq => ?_⟩
  · simp only [Value.ownBlock, Option.some.injEq] at e
    subst e
    exact ⟨fun hh => by have := (h.a.e.lt hh).2; omega, fun hh => by have := (h.a.p.lt hh).2; omega, fun hh => by omega⟩
  · simp only [Value.ownBlock, Option.some.injEq] at e
    have := hs q hq
    omega
theorem Sl64.rb {w : World} {g d : Nat} {zs : List Int} (h : Sl64 w g zs) : Rb w (.slice (some ⟨g, 0, none⟩) 64 d) zs :=
  ⟨g, 0, d, by rw [h.len], fun i hi => by rw [Nat.zero_add]; exact h.cell i (by rw [← h.len]; exact hi)⟩

set_option maxHeartbeats 8000000 in
theorem l7PutIn_any (sb : Nat → Prop) (B : Nat → Option Obj) (n₀ : Nat) (X : World) (ob : Nat) (es : List (Int × List Int)) (cur : List (List Int)) (x1 : Option Addr) (k1 : Nat) (V1 : List Value) (x2 : Option Addr) (k2 : Nat) (V2 : List Value) (pn cb so n cc : Nat) (old cs : List Int) (w : World) (hS : HpX sb B n₀ X ob es cur x1 k1 V1 x2 k2 V2 w) (hok : okP cur) (hc12 : cur.length ≤ 12) (hel : es.length ≤ 900) (hp : cur[pn]? = some old) (hC : Cx sb cb so B cs n) :
    Calls Tryz.prog 163 #[.pointer (some ⟨ob, 0, none⟩), .int .i64 pn, .slice (some ⟨cb, so, none⟩) n cc] w fun e w' => PiPost sb B n₀ X ob (piS (es, cur) pn old cs) e w' := by
  have hpl : pn < cur.length := (List.getElem?_eq_some_iff.1 hp).1
  have hF := hok.at hp
  have hl64 := hF.pg.len
  obtain ⟨W0, hWB, hWr⟩ := hC.rd
  obtain ⟨gp, ay, cy, rfl, c8, hyr, hyl⟩ := hS.page hp
  rw [hl64] at c8 hyl
  have hcn := hC.ln
  have h1 := hC.h1
  have h20 := hC.h20
  have hcr := hS.rd hC.i hWB hWr
  have HCi : Hid (sb cb) := hC.i
  obtain ⟨o0, o1, _, _⟩ := hS.o
  have hpi : (pn : Int) < (cur.length : Int) := by omega
  have hput := l2Put_q ay old cs cy cb so n cc w hyr hF hcn h1 h20 hcr
  have HPut : Hid (Calls Tryz.prog 146 #[.slice ay 64 cy, .slice (some ⟨cb, so, none⟩) n cc] w fun e w' => PqPost old cs n w e w') := hput
  have HS : Hid (HpX sb B n₀ X ob es cur x1 k1 V1 (some ⟨gp, 0, none⟩) k2 V2 w) := hS
  have HOk : Hid (okP cur) := hok
  have HWr : Hid (Reads W0 (some ⟨cb, so, none⟩) cs) := hWr
  have HP : Hid (cur[pn]? = some old) := hp
  have HB : Hid (∀ z ∈ cs, 0 ≤ z ∧ z ≤ 255) := hC.bd
  clear hput hS hok hWr hp hcr hC
  go_enter Tryz.func163, Tryz.ntmps163
  go_wp2_with fail
  refine HPut.out.mono ?_
  rintro e w1 ⟨g1, hq0, hqn⟩
  have hS := HS.out.below g1
  obtain ⟨q, hq⟩ : ∃ q, putQ old n = q := ⟨_, rfl⟩
  have HQ : Hid (putQ old n = q) := hq
  rw [hq] at hq0 hqn
  have HQc : Hid (putQ old cs.length = q) := by show _ = _; rw [hcn]; exact hq
  clear hq HPut c8 o0 o1
  by_cases h0 : q = 0
  · subst h0
    obtain ⟨g, dd, rfl, hdd, hg, hs64⟩ := hq0 rfl
    have hPf : Fine (putP old cs) := fine_put hF HB.out (by omega) HQc.out
    have hfr := HS.out.fresh hg (o := 0) (n := 64) (c := dd)
    have hcon := l7Turn_any sb B n₀ X ob es cur x1 k1 V1 (some ⟨gp, 0, none⟩) k2 V2 pn (some ⟨g, 0, none⟩) dd (putP old cs) w1 hS (by omega) HOk.out.bd hPf.pg.bd hPf.pg.len hc12 (by omega) hs64.rb hfr.1
    have HR : Hid (piS (es, cur) pn old cs = (tnS (es, cur) pn (putP old cs), some (putS old))) := by show _ = _; unfold piS; rw [if_pos HQc.out]
    clear hq0 hqn hS HS hfr hs64 hyr
    go_wp2_with fail
    refine hcon.mono ?_
    rintro e w2 ⟨rfl, hR⟩
    clear hcon
    go_wp2_with fail
    go_ret2
    refine ⟨?_, ?_⟩
    · rw [HR.out]; rfl
    · rw [HR.out]; exact hR
  · have e0 := hqn h0
    subst e0
    clear hq0 hqn
    by_cases h8 : q = 8
    · subst h8
      have c8 := hS.page HP.out
      obtain ⟨gp', ay', cy', e9, c8, hyr, hyl'⟩ := c8
      cases e9
      rw [hl64] at c8 hyl'
      obtain ⟨o0, o1, _, _⟩ := hS.o
      have hcp := l2Compact_any ay' old cy' w1 hyr hF hyl'
      have HCp : Hid (Calls Tryz.prog 177 #[.slice ay' 64 cy'] w1 fun e w' => ∃ g, e = .returned (.slice (some ⟨g, 0, none⟩) 64 64) ∧ Below w1.heap.size w1 w' ∧ w1.heap.size ≤ g ∧ Sl64 w' g (cpP old (nb old 0))) := hcp
      have hCf : Fine (cpL old) := fine_compact hF
      have HS1 : Hid (HpX sb B n₀ X ob es cur x1 k1 V1 (some ⟨gp, 0, none⟩) k2 V2 w1) := hS
      clear hcp hS HS hyr
      go_wp2_with fail
      refine HCp.out.mono ?_
      rintro e w2 ⟨g, rfl, g2, hg, hs64⟩
      have hfr := HS1.out.fresh hg (o := 0) (n := 64) (c := 64)
      have hcon := l7Turn_any sb B n₀ X ob es cur x1 k1 V1 (some ⟨gp, 0, none⟩) k2 V2 pn (some ⟨g, 0, none⟩) 64 (cpL old) w2 (HS1.out.below g2) (by omega) HOk.out.bd hCf.pg.bd hCf.pg.len hc12 (by omega) hs64.rb hfr.1
      clear hfr hs64 HS1 HCp g2 c8 o0 o1
      go_wp2_with fail
      refine hcon.mono ?_
      rintro e w3 ⟨rfl, y1, m1, W1, y2, m2, W2, hS3⟩
      clear hcon
      have hlen : (wpL cur pn (cpL old)).length = cur.length := wpL_len hpl
      have hp3 : (wpL cur pn (cpL old))[pn]? = some (cpL old) := wpL_at hpl
      have hel3 : (tnE es cur pn (cpL old)).length ≤ 901 := by have := tn_len es cur pn (cpL old); omega
      have hok3 : okP (wpL cur pn (cpL old)) := HOk.out.turn pn hCf
      obtain ⟨es3, hes⟩ : ∃ es3, tnE es cur pn (cpL old) = es3 := ⟨_, rfl⟩
      obtain ⟨cur3, hcu⟩ : ∃ cur3, wpL cur pn (cpL old) = cur3 := ⟨_, rfl⟩
      rw [hes, hcu] at hS3
      rw [hes] at hel3
      rw [hcu] at hlen hp3 hok3
      have HT : Hid (tnS (es, cur) pn (cpL old) = (es3, cur3)) := by show _ = _; unfold tnS; dsimp only; rw [hes, hcu]
      clear hes hcu
      obtain ⟨gp3, ay3, cy3, rfl, c83, hyr3, hyl3⟩ := hS3.page hp3
      rw [hCf.pg.len] at c83 hyl3
      have hput := l2Put_q ay3 (cpL old) cs cy3 cb so n cc w3 hyr3 hCf hcn h1 h20 (hS3.rd HCi.out hWB HWr.out)
      have HPut : Hid (Calls Tryz.prog 146 #[.slice ay3 64 cy3, .slice (some ⟨cb, so, none⟩) n cc] w3 fun e w' => PqPost (cpL old) cs n w3 e w') := hput
      obtain ⟨o0, o1, _, _⟩ := hS3.o
      have hpi3 : (pn : Int) < (cur3.length : Int) := by omega
      have HS3 : Hid (HpX sb B n₀ X ob es3 cur3 y1 m1 W1 (some ⟨gp3, 0, none⟩) m2 W2 w3) := hS3
      clear hput hS3 hyr3
      go_wp2_with fail
      refine HPut.out.mono ?_
      rintro e w4 ⟨g4, hq0, hqn⟩
      obtain ⟨q2, hq2⟩ : ∃ q, putQ (cpL old) n = q := ⟨_, rfl⟩
      have HQ2 : Hid (putQ (cpL old) cs.length = q2) := by show _ = _; rw [hcn]; exact hq2
      rw [hq2] at hq0 hqn
      clear hq2 HPut c83 o0 o1
      by_cases h20' : q2 = 0
      · subst h20'
        obtain ⟨g, dd, rfl, hdd, hg, hs64⟩ := hq0 rfl
        have hPf : Fine (putP (cpL old) cs) := fine_put hCf HB.out (by omega) HQ2.out
        have hfr := HS3.out.fresh hg (o := 0) (n := 64) (c := dd)
        have hcon := l7Turn_any sb B n₀ X ob es3 cur3 y1 m1 W1 (some ⟨gp3, 0, none⟩) m2 W2 pn (some ⟨g, 0, none⟩) dd (putP (cpL old) cs) w4 (HS3.out.below g4) (by omega) hok3.bd hPf.pg.bd hPf.pg.len (by omega) (by omega) hs64.rb hfr.1
        have HR : Hid (piS (es, cur) pn old cs = (tnS (es3, cur3) pn (putP (cpL old) cs), some (putS (cpL old)))) := by show _ = _; unfold piS; rw [HQc.out, if_neg (by decide), if_pos rfl, HQ2.out, if_pos rfl, HT.out]
        clear hq0 hqn HS3 hfr hs64
        go_wp2_with fail
        refine hcon.mono ?_
        rintro e w5 ⟨rfl, hR⟩
        clear hcon
        go_wp2_with fail
        go_ret2
        refine ⟨?_, ?_⟩
        · rw [HR.out]; rfl
        · rw [HR.out]; exact hR
      · have e0 := hqn h20'
        subst e0
        clear hq0 hqn
        have HR : Hid (piS (es, cur) pn old cs = ((es3, cur3), none)) := by show _ = _; unfold piS; rw [HQc.out, if_neg (by decide), if_pos rfl, HQ2.out, if_neg h20', HT.out]
        have d0 : (q2 != 0) = true := by simpa using h20'
        have hS5 := HS3.out.below g4
        clear HS3
        go_wp2_with fail
        go_ret2
        refine ⟨?_, ?_⟩
        · rw [HR.out]; rfl
        · rw [HR.out]; exact ⟨_, _, _, _, _, _, hS5⟩
    · have HR : Hid (piS (es, cur) pn old cs = ((es, cur), none)) := by show _ = _; unfold piS; rw [HQc.out, if_neg h0, if_neg h8]
      have d0 : (q != 0) = true := by simpa using h0
      have d8 : (q == 8) = false := by simpa using h8
      clear HS
      go_wp2_with fail
      go_ret2
      refine ⟨?_, ?_⟩
      · rw [HR.out]; rfl
      · rw [HR.out]; exact ⟨_, _, _, _, _, _, hS⟩

end Go.Proofs.YtnfolgoloaeanaaGreat

/-
  The model's l7Place: a cell placed.
-/
namespace Go.Proofs.YtnfolgoloaeanaaGreat
open Go.RowKit
set_option linter.unusedVariables false
set_option maxRecDepth 20000

/-- What l7Place hands back. -/
def PlPost (sb : Nat → Prop) (B : Nat → Option Obj) (n₀ : Nat) (X : World) (ob : Nat) (r : St × Option (Nat × Nat)) (e : Ending) (V : World) : Prop := e = .returned (.tuple #[.int .i64 (((r.2.map (·.1)).getD 0 : Nat) : Int), .int .i64 (((r.2.map (·.2)).getD 0 : Nat) : Int), .bool r.2.isSome]) ∧ R3X sb B n₀ X ob r.1.1 r.1.2 V

theorem plS_skip {x : Int} {cs : List Int} {m j : Nat} {s : St} (hj : j < m) (h : (j : Int) = x) : plS x cs (m - j) j s = plS x cs (m - (j + 1)) (j + 1) s := by
  obtain ⟨k, hk⟩ : ∃ k, m - j = k + 1 := ⟨m - j - 1, by omega⟩
  rw [hk, show m - (j + 1) = k by omega, plS, if_pos h]
theorem plS_some {x : Int} {cs old : List Int} {m j sl : Nat} {s : St} (hj : j < m) (h : (j : Int) ≠ x) (ho : s.2[j]? = some old) (hr : (piS s j old cs).2 = some sl) : plS x cs (m - j) j s = ((piS s j old cs).1, some (j, sl)) := by
  obtain ⟨k, hk⟩ : ∃ k, m - j = k + 1 := ⟨m - j - 1, by omega⟩
  rw [hk, plS, if_neg h, getD_of ho, hr]
theorem plS_none {x : Int} {cs old : List Int} {m j : Nat} {s : St} (hj : j < m) (h : (j : Int) ≠ x) (ho : s.2[j]? = some old) (hr : (piS s j old cs).2 = none) : plS x cs (m - j) j s = plS x cs (m - (j + 1)) (j + 1) (piS s j old cs).1 := by
  obtain ⟨k, hk⟩ : ∃ k, m - j = k + 1 := ⟨m - j - 1, by omega⟩
  rw [hk, show m - (j + 1) = k by omega, plS, if_neg h, getD_of ho, hr]

set_option maxHeartbeats 8000000 in
theorem l7Place_any (sb : Nat → Prop) (B : Nat → Option Obj) (n₀ : Nat) (X : World) (ob : Nat) (es : List (Int × List Int)) (cur : List (List Int)) (x : Int) (cb so n cc : Nat) (cs : List Int) (w : World) (hS : R3X sb B n₀ X ob es cur w) (hok : okP cur) (hc12 : cur.length ≤ 12) (hel : es.length ≤ 100) (hC : Cx sb cb so B cs n) :
    Calls Tryz.prog 112 #[.pointer (some ⟨ob, 0, none⟩), .int .i64 x, .slice (some ⟨cb, so, none⟩) n cc] w fun e w' => PlPost sb B n₀ X ob (plS x cs cur.length 0 (es, cur)) e w' := by
  obtain ⟨m, hm⟩ : ∃ m, cur.length = m := ⟨_, rfl⟩
  rw [hm] at hc12 ⊢
  obtain ⟨R, hR⟩ : ∃ R, plS x cs m 0 (es, cur) = R := ⟨_, rfl⟩
  have HR : Hid (plS x cs m 0 (es, cur) = R) := hR
  rw [hR]
  have HC : Hid (Cx sb cb so B cs n) := hC
  have hA : OkS (es, cur) m 100 := ⟨hok, hm, hel⟩
  clear hR hC hok hm hel
  go_enter Tryz.func112, Tryz.ntmps112
  go_wp2_with fail
  go_loopw [9] (fun k wr => ∃ (j : Nat) (s : St), j ≤ m ∧ k = .int .i64 j ∧ Hid (plS x cs (m - j) j s = R) ∧ OkS s m (100 + 2 * j) ∧ R3X sb B n₀ X ob s.1 s.2 wr) (fun k _ => m - (intOf k).toNat)
  case atStart => exact ⟨0, (es, cur), Nat.zero_le _, rfl, HR, hA, hS⟩
  case round =>
    clear hS hA HR
    obtain ⟨j, ⟨es1, cur1⟩, hj, rfl, HR, hA, y1, m1, W1, y2, m2, W2, hS⟩ := hrel
    dsimp only at hS
    have hl := hA.l
    dsimp only at hl
    have hel := hA.e
    dsimp only at hel
    have hok : Hid (okP cur1) := hA.p
    by_cases hlt : j < m
    · have hjn : (j : Int) < (m : Int) := by omega
      obtain ⟨o0, o1, _, _⟩ := hS.o
      rw [hl] at o0
      by_cases hx : (j : Int) = x
      · have HR2 : Hid (plS x cs (m - (j + 1)) (j + 1) (es1, cur1) = R) := by show _ = _; rw [← plS_skip hlt hx]; exact HR.out
        have dx : ((j : Int) == x) = true := by simpa using hx
        have HF : Hid (R3X sb B n₀ X ob es1 cur1 wr) := ⟨_, _, _, _, _, _, hS⟩
        clear hx hS
        go_wp2_with fail
        go_roundw
        case rel => exact ⟨j + 1, (es1, cur1), by omega, by go_num, HR2, hA.mono (by omega), HF.out⟩
        case measure => simp [intOf]; omega
      · have dx : ((j : Int) == x) = false := by simpa using hx
        obtain ⟨old, hold⟩ : ∃ old, cur1[j]? = some old := ⟨_, List.getElem?_eq_getElem (by omega)⟩
        have hpi := l7PutIn_any sb B n₀ X ob es1 cur1 y1 m1 W1 y2 m2 W2 j cb so n cc old cs wr hS hok.out (by omega) (by omega) hold HC.out
        have hAn := hA.pi hlt hold HC.out.bd (by rw [HC.out.ln]; exact HC.out.h1)
        obtain ⟨r, hr⟩ : ∃ r, piS (es1, cur1) j old cs = r := ⟨_, rfl⟩
        rw [hr] at hpi hAn
        have HPi : Hid (Calls Tryz.prog 163 #[.pointer (some ⟨ob, 0, none⟩), .int .i64 j, .slice (some ⟨cb, so, none⟩) n cc] wr fun e w' => PiPost sb B n₀ X ob r e w') := hpi
        obtain ⟨rs, ro⟩ := r
        cases ro with
        | some sl =>
          have HE : Hid (R = (rs, some (j, sl))) := by
            show _ = _
            rw [← HR.out, plS_some hlt hx hold (sl := sl) (by rw [hr]), hr]
          clear hpi hS hr hx
          go_wp2_with fail
          refine HPi.out.mono ?_
          rintro e w3 ⟨rfl, hR3⟩
          clear HPi o0 o1
          go_wp2_with fail
          go_ret3
          rw [HE.out]
          exact ⟨rfl, hR3⟩
        | none =>
          have HR2 : Hid (plS x cs (m - (j + 1)) (j + 1) rs = R) := by
            show _ = _
            have h9 := plS_none (cs := cs) hlt hx hold (by rw [hr])
            rw [hr] at h9
            rw [← HR.out, h9]
          clear hpi hS hr hx
          go_wp2_with fail
          refine HPi.out.mono ?_
          rintro e w3 ⟨rfl, hR3⟩
          clear HPi o0 o1
          go_wp2_with fail
          go_roundw
          case rel => exact ⟨j + 1, rs, by omega, by go_num, HR2, hAn.mono (by omega), hR3⟩
          case measure => simp [intOf]; omega
    · have e : j = m := by omega
      subst e
      have hjn : ¬ (j : Int) < (j : Int) := by omega
      obtain ⟨o0, o1, _, _⟩ := hS.o
      rw [hl] at o0
      by_cases h12 : 12 ≤ j
      · have HE : Hid (R = ((es1, cur1), none)) := by
          show _ = _
          rw [← HR.out, Nat.sub_self, plS, nwS, if_pos (by show 12 ≤ cur1.length; omega)]
        have d12 : (12 : Int) ≤ (j : Int) := by omega
        have HF : Hid (R3X sb B n₀ X ob es1 cur1 wr) := ⟨_, _, _, _, _, _, hS⟩
        clear hS
        go_wp2_with fail
        go_ret3
        rw [HE.out]
        exact ⟨rfl, HF.out⟩
      · have d12 : ¬ (12 : Int) ≤ (j : Int) := by omega
        have HE : Hid (R = (tnS (es1, cur1) j (putP (newBytes 0) cs), some (j, putS (newBytes 0)))) := by
          show _ = _
          rw [← HR.out, Nat.sub_self, plS, nwS, if_neg (by show ¬ 12 ≤ cur1.length; omega)]
          show (tnS (es1, cur1) cur1.length _, some (cur1.length, _)) = _
          rw [hl]
        have HS : Hid (HpX sb B n₀ X ob es1 cur1 y1 m1 W1 y2 m2 W2 wr) := hS
        obtain ⟨W0, hWB, hWr⟩ := HC.out.rd
        have HWr : Hid (Reads W0 (some ⟨cb, so, none⟩) cs) := hWr
        have HCi : Hid (sb cb) := HC.out.i
        clear hS hWr
        go_wp2_with fail
        refine (l2New_any 0 wr).mono ?_
        rintro e w3 ⟨rfl, g3, hB3⟩
        have hS3 := HS.out.below g3
        have hput := l2Put_q (some ⟨wr.heap.size, 0, none⟩) (newBytes 0) cs 64 cb so n cc w3 hB3.reads (fine_new 0 (by omega) (by omega)) HC.out.ln HC.out.h1 HC.out.h20 (hS3.rd HCi.out hWB HWr.out)
        have HPut : Hid (Calls Tryz.prog 146 #[.slice (some ⟨wr.heap.size, 0, none⟩) 64 64, .slice (some ⟨cb, so, none⟩) n cc] w3 fun e w' => PqPost (newBytes 0) cs n w3 e w') := hput
        have HS3 : Hid (HpX sb B n₀ X ob es1 cur1 y1 m1 W1 y2 m2 W2 w3) := hS3
        clear hput hS3 hB3 HS g3
        go_wp2_with fail
        refine HPut.out.mono ?_
        rintro e w4 ⟨g4, hq0, -⟩
        obtain ⟨g, dd, rfl, hdd, hg, hs64⟩ := hq0 (putQ_new n HC.out.h20)
        have hPf : Fine (putP (newBytes 0) cs) := fine_put (fine_new 0 (by omega) (by omega)) HC.out.bd (by rw [HC.out.ln]; exact HC.out.h1) (by rw [HC.out.ln]; exact putQ_new n HC.out.h20)
        have hfr := HS3.out.fresh hg (o := 0) (n := 64) (c := dd)
        have hS4 := HS3.out.below g4
        have hcon := l7Turn_any sb B n₀ X ob es1 cur1 y1 m1 W1 y2 m2 W2 j (some ⟨g, 0, none⟩) dd (putP (newBytes 0) cs) w4 hS4 (by omega) hok.out.bd hPf.pg.bd hPf.pg.len (by omega) (by omega) hs64.rb hfr.1
        have HCon : Hid (Calls Tryz.prog 165 #[.pointer (some ⟨ob, 0, none⟩), .int .i64 j, .slice (some ⟨g, 0, none⟩) 64 dd] w4 fun e w' => TxPost sb B n₀ X ob (tnE es1 cur1 j (putP (newBytes 0) cs)) (wpL cur1 j (putP (newBytes 0) cs)) e w') := hcon
        obtain ⟨o0, o1, _, _⟩ := hS4.o
        rw [hl] at o0
        clear hcon hq0 hfr hs64 HPut HS3 hS4
        go_wp2_with fail
        refine HCon.out.mono ?_
        rintro e w5 ⟨rfl, z1, n1, Z1, z2, n2, Z2, hS5⟩
        have hl5 : (wpL cur1 j (putP (newBytes 0) cs)).length = j + 1 := by rw [show j = cur1.length from hl.symm, wpL_new, List.length_append]; rfl
        obtain ⟨o0', o1', _, _⟩ := hS5.o
        rw [hl5] at o0'
        have HF : Hid (R3X sb B n₀ X ob (tnE es1 cur1 j (putP (newBytes 0) cs)) (wpL cur1 j (putP (newBytes 0) cs)) w5) := ⟨_, _, _, _, _, _, hS5⟩
        clear hS5 HCon o0 o1 hl5
        go_wp2_with fail
        go_ret3
        rw [HE.out]
        refine ⟨?_, HF.out⟩
        simp

end Go.Proofs.YtnfolgoloaeanaaGreat

/-
  The contracts of what makes the cell of a row: rowCell and the model's l1Cell.
-/
namespace Go.Proofs.YtnfolgoloaeanaaGreat
open Go.RowKit
set_option linter.unusedVariables false
set_option maxRecDepth 20000

def cellBytes (f t k v : Int) (s : ByteArray) : List Int := [f, t, k, v / 256, v % 256, s.size] ++ s.data.toList.map fun b => (b.toNat : Int)

theorem and255 (v : Int) (v0 : 0 ≤ v) (v1 : v ≤ 999) : bits BinOp.and IntKind.i64 v 255 = v % 256 := by
  obtain ⟨n, rfl⟩ := Int.eq_ofNat_of_zero_le v0
  have h : ∀ m : Fin 1000, bits BinOp.and IntKind.i64 (m.val : Int) 255 = (m.val : Int) % 256 := by decide +kernel
  exact h ⟨n, by omega⟩

theorem strCells_ints (s : ByteArray) : Lib.strCells s = (s.data.toList.map fun b => (b.toNat : Int)).map (Value.int .u8) := by
  simp [Lib.strCells]

set_option maxHeartbeats 400000 in
theorem rowCell_any (f t k v : Int) (s : ByteArray) (w : World) (f0 : 0 ≤ f) (f1 : f ≤ 2) (t0 : 0 ≤ t) (t1 : t ≤ 3) (k0 : 1 ≤ k) (k1 : k ≤ 99) (v0 : 0 ≤ v) (v1 : v ≤ 999) (hs : s.size ≤ 8) :
    Calls Tryz.prog 54 #[.int .i64 f, .agg #[.int .i64 t, .int .i64 k, .int .i64 v, .string s]] w fun e w' =>
      ∃ g c, e = .returned (.slice (some ⟨g, 0, none⟩) (6 + s.size) c) ∧ Below w.heap.size w w' ∧ BytesIn w.heap.size w'.heap.size w' (some ⟨g, 0, none⟩) (cellBytes f t k v s) := by
  obtain ⟨i0, hi, hz0, hz1, hz2⟩ := info5
  have ha := and255 v v0 v1
  go_enter Tryz.func54, Tryz.ntmps54
  go_wp2_with (at_builtin; go_must (refine Lib.wpList_append_own_string _ rfl _ _ 22 9 rfl (w.heap.size + 1) 5 i0 Tryz.underlying22 Tryz.underlying9 hi hz0 hz1 hz2 (.slice (some ⟨w.heap.size + 1, 0, none⟩) 6 6) 6 [.int .u8 f, .int .u8 t, .int .u8 k, .int .u8 (v / 256), .int .u8 (v % 256), .int .u8 s.size] rfl ?c1 s rfl ?c3 ?c4 ?c5 ?_))
  case c1 =>
    have h := World.ownsRow_lit (base := w.heap.size + 1) (e := 5) (size := 1) (w.alloc (.cells #[.int .i64 t, .int .i64 k, .int .i64 v, .string s] 26)) #[.int .u8 f, .int .u8 t, .int .u8 k, .int .u8 (v / 256), .int .u8 (v % 256), .int .u8 s.size] 6 (by simp) (by unfold maxLen; omega) rfl
    simp only [World.size_alloc] at h
    exact h
  case c3 => unfold maxLen; omega
  case c4 => omega
  case c5 => simp
  intro v' w' hown hgrow _
  obtain ⟨g, cap, hv⟩ := Joins.ownsRow_form hown (by omega)
  subst hv
  have hB : Below w.heap.size w w' := Below.grown (B := w.heap.size) (by go_grown) hgrow (by simp; omega) (fun k hk => by simp [Value.ownBlock] at hk; omega)
  have hY : BytesIn w.heap.size w'.heap.size w' (some ⟨g, 0, none⟩) (cellBytes f t k v s) := by
    refine BytesIn.mono (bytesIn_owns (base := w.heap.size + 1) (e := 5) (n := 6 + s.size) (cap := cap) ?_) (by omega) (Nat.le_refl _)
    rw [show (cellBytes f t k v s).map (Value.int .u8) = _ from by rw [cellBytes, List.map_append, ← strCells_ints]]
    exact hown
  clear hown hgrow
  go_wp2_with fail
  go_ret
  exact ⟨g, cap, rfl, hB, hY⟩

theorem ownsRow_drew {w : World} {base : Nat} {e : TypeId} {size : Nat} {v : Value} {n : Nat} {xs : List Value} (h : w.ownsRow base e size v n xs) : w.drew.ownsRow base e size v n xs := h

theorem bytesRow_cell (w : World) (s : ByteArray) (cap g : Nat) (e : TypeId) (m : Nat × Nat) (hg : g = w.heap.size) (j : Nat) (u : Value) (h : (Lib.strCells s)[j]? = some u) : (w.alloc (.cells (bytesRow s cap) e m)).cell? ((⟨g, 0, none⟩ : Addr).add j) = some u := by
  subst hg
  have hj : j < s.size := by have := (List.getElem?_eq_some_iff.1 h).1; rw [Lib.strCells_length] at this; exact this
  rw [show ((⟨w.heap.size, 0, none⟩ : Addr).add j) = ⟨w.heap.size, j, none⟩ from by unfold Addr.add; split <;> simp_all]
  rw [World.cell?_alloc_mark]
  simp [Lib.strCells] at h
  obtain ⟨x, hx, rfl⟩ := h
  obtain ⟨_, rfl⟩ := Array.getElem?_eq_some_iff.1 hx
  simp [bytesRow, Array.getElem?_append, hj]
set_option maxHeartbeats 1000000 in
theorem l1CellO_any (f t k v : Int) (s : ByteArray) (b o : Nat) (w : World) (f0 : 0 ≤ f) (f1 : f ≤ 2) (t0 : 0 ≤ t) (t1 : t ≤ 3) (k0 : 1 ≤ k) (k1 : k ≤ 99) (v0 : 0 ≤ v) (v1 : v ≤ 999) (hs : s.size ≤ 8) (h : RowC w b o ⟨t, k, v, s⟩) :
    Calls Tryz.prog 113 #[.int .i64 f, .pointer (some ⟨b, o, none⟩)] w fun e w' =>
      ∃ g c, e = .returned (.slice (some ⟨g, 0, none⟩) (6 + s.size) c) ∧ Below w.heap.size w w' ∧ BytesIn w.heap.size w'.heap.size w' (some ⟨g, 0, none⟩) (cellBytes f t k v s) := by
  obtain ⟨i0, hi, hz0, hz1, hz2⟩ := info5
  obtain ⟨c0, c1, c2, c3⟩ := h
  dsimp only at c0 c1 c2 c3
  have hlt : b < w.heap.size := World.block_lt_of_cell? w _ c0
  have kc := fun (w : World) (s : ByteArray) => run_bytes_of_string (P := Tryz.prog) w 9 22 5 s Tryz.underlying9 Tryz.underlying22 Tryz.underlying5
  go_enter Tryz.func113, Tryz.ntmps113
  go_wp2_with fail
  go_region_held (fun w' => w'.cell? ⟨b, o, none⟩ = some (.int .i64 t) ∧ w'.cell? ⟨b, o + 1, none⟩ = some (.int .i64 k) ∧ w'.cell? ⟨b, o + 2, none⟩ = some (.int .i64 v) ∧ w'.cell? ⟨b, o + 3, none⟩ = some (.string s)) (go_keep) (fail)
  go_wp2_with (at_builtin; go_must (refine wpList_append_own _ rfl _ _ 22 rfl w.heap.size 5 i0 (.int .u8 0) 1 1 Tryz.underlying22 hi hz0 hz1 hz2 rfl (by decide) (.slice (some ⟨w.heap.size, 0, none⟩) 6 6) 6 [.int .u8 f, .int .u8 t, .int .u8 k, .int .u8 (v / 256), .int .u8 (v % 256), .int .u8 s.size] rfl ?c1 ⟨w.heap.size + 1, 0, none⟩ s.size _ (Lib.strCells s) rfl ?c2 ?c3 ?c4 ?c5 ?c6 ?c7 ?_))
  case c1 =>
    repeat (refine ownsRow_drew ?_)
    exact World.ownsRow.alloc (World.ownsRow_lit (base := w.heap.size) (e := 5) (size := 1) w #[.int .u8 f, .int .u8 t, .int .u8 k, .int .u8 (v / 256), .int .u8 (v % 256), .int .u8 s.size] 6 (Nat.le_refl _) (by unfold maxLen; omega) rfl) _
  case c2 => rw [Lib.strCells_length, Nat.mul_one]
  case c3 =>
    intro j u hj
    exact bytesRow_cell _ s _ _ _ _ (by simp) j u hj
  case c4 => intro u hu; simp [Lib.strCells] at hu; obtain ⟨x, _, rfl⟩ := hu; rfl
  case c5 => unfold maxLen; omega
  case c6 => omega
  case c7 => simp; omega
  intro v' w' hown hgrow _
  obtain ⟨g, cap, hv⟩ := Joins.ownsRow_form hown (by omega)
  subst hv
  have hB : Below w.heap.size w w' := Below.grown (B := w.heap.size) (by go_grown) hgrow (by simp; omega) (fun k hk => by simp [Value.ownBlock] at hk; omega)
  have hY : BytesIn w.heap.size w'.heap.size w' (some ⟨g, 0, none⟩) (cellBytes f t k v s) := by
    refine bytesIn_owns (e := 5) (n := 6 + s.size) (cap := cap) ?_
    rw [show (cellBytes f t k v s).map (Value.int .u8) = _ from by rw [cellBytes, List.map_append, ← strCells_ints]]
    exact hown
  clear hown hgrow
  go_wp2_with fail
  go_ret
  exact ⟨g, cap, rfl, hB, hY⟩

end Go.Proofs.YtnfolgoloaeanaaGreat

