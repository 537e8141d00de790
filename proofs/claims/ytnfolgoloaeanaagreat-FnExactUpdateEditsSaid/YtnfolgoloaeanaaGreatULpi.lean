/-
  The model's l7PutIn: a cell put into a page, which may be compacted for it.
-/
import Derived.Test.YtnfolgoloaeanaaGreatUDpc
import Derived.Test.YtnfolgoloaeanaaGreatULpq
import Derived.Test.YtnfolgoloaeanaaGreatUKep
import Derived.Test.YtnfolgoloaeanaaGreatULpu

namespace Go.Proofs.YtnfolgoloaeanaaGreat
open Go.RowKit
set_option linter.unusedVariables false
set_option maxRecDepth 20000

theorem HpS.page {n₀ : Nat} {X : World} {ob : Nat} {es : List (Int × List Int)} {cur : List (List Int)} {x1 : Option Addr} {k1 : Nat} {V1 : List Value} {x2 : Option Addr} {k2 : Nat} {V2 : List Value} {V : World} (h : HpS n₀ X ob es cur x1 k1 V1 x2 k2 V2 V) {pn : Nat} {old : List Int} (hp : cur[pn]? = some old) : ∃ gp ay cy, x2 = some ⟨gp, 0, none⟩ ∧ V.cell? ⟨gp, pn, none⟩ = some (.slice ay old.length cy) ∧ Reads V ay old ∧ old.length ≤ cy := by
  have hpl : pn < cur.length := (List.getElem?_eq_some_iff.1 hp).1
  obtain ⟨gp, hx2⟩ : ∃ gp, x2 = some ⟨gp, 0, none⟩ := by
    rcases h.a.p.row.2 with ⟨_, h0⟩ | ⟨gp, cap, cu, e, _⟩
    · omega
    · cases e; exact ⟨gp, rfl⟩
  subst hx2
  obtain ⟨y0, hy0⟩ : ∃ y, V2[pn]? = some y := ⟨_, List.getElem?_eq_getElem (by rw [h.a.p.len]; omega)⟩
  have hyb := h.a.p.by' pn y0 old hy0 hp
  obtain ⟨ay, cy, hye, hle⟩ := hyb.shape
  subst hye
  have c8 := h.a.p.row.cellAt pn (by omega)
  rw [hy0] at c8
  exact ⟨gp, ay, cy, rfl, c8, hyb.rd, hle.1⟩

/-- A cell in block cb, one of sb. -/
structure Cx (sb : Nat → Prop) (cb so : Nat) (B : Nat → Option Obj) (cs : List Int) (n : Nat) : Prop where
  i : sb cb
  ln : cs.length = n
  h1 : 1 ≤ n
  h20 : n ≤ 20
  bd : ∀ z ∈ cs, 0 ≤ z ∧ z ≤ 255
  rd : ∃ W : World, W.heap[cb]? = B cb ∧ Reads W (some ⟨cb, so, none⟩) cs

/-- What l2Put hands back. -/
def PqPost (zs cs : List Int) (n : Nat) (w : World) (e : Ending) (w' : World) : Prop := Below w.heap.size w w' ∧ (putQ zs n = 0 → ∃ g dd, e = .returned (.tuple #[.slice (some ⟨g, 0, none⟩) 64 dd, .int .i64 (putS zs), .int .i64 0]) ∧ 64 ≤ dd ∧ w.heap.size ≤ g ∧ Sl64 w' g (putP zs cs)) ∧ (putQ zs n ≠ 0 → e = .returned (.tuple #[.slice none 0 0, .int .i64 0, .int .i64 (putQ zs n)]))
theorem l2Put_q (a : Option Addr) (zs cs : List Int) (c cb so n d : Nat) (w : World) (hr : Reads w a zs) (h : Fine zs) (hn : cs.length = n) (h1 : 1 ≤ n) (h20 : n ≤ 20) (hcell : Reads w (some ⟨cb, so, none⟩) cs) :
    Calls Tryz.prog 146 #[.slice a 64 c, .slice (some ⟨cb, so, none⟩) n d] w fun e w' => PqPost zs cs n w e w' := by
  by_cases hs : putS zs = nb zs 0 ∧ 16 ≤ nb zs 0
  · have hq : putQ zs n = 2 := by unfold putQ; rw [if_pos hs]
    refine (l2Put_many a zs c _ n d w hr h hs).mono ?_
    rintro e w' ⟨rfl, rfl⟩
    exact ⟨Below.refl _ _, fun e => by rw [hq] at e; exact absurd e (by decide), fun _ => by rw [hq]⟩
  · by_cases hfull : freeN zs < n + putMore zs ∨ nb zs 1 < n + (2 + 2 * putM zs)
    · have hq : putQ zs n = if freeN zs < n + putMore zs then 9 else 8 := by
        unfold putQ
        rw [if_neg hs]
        split
        · rfl
        · rename_i h2
          rw [if_pos (by rcases hfull with h3 | h3; exact absurd h3 h2; exact h3)]
      have hq0 : putQ zs n ≠ 0 := by rw [hq]; split <;> decide
      refine (l2Put_full a zs c _ n d w hr h (by omega) hs hfull).mono ?_
      rintro e w' ⟨rfl, rfl⟩
      exact ⟨Below.refl _ _, fun e => absurd e hq0, fun _ => by rw [hq]⟩
    · have hq : putQ zs n = 0 := by
        unfold putQ
        rw [if_neg hs, if_neg (fun h => hfull (.inl h)), if_neg (fun h => hfull (.inr h))]
      refine (l2Put_cap a zs cs c cb so n d w hr h hn h1 hcell hq).mono ?_
      rintro e w' ⟨g, dd, rfl, h64, hb, hg, hs64⟩
      exact ⟨hb, fun _ => ⟨g, dd, rfl, h64, hg, hs64⟩, fun e => absurd hq e⟩

/-- What l7PutIn hands back. -/
def PiPost (sb : Nat → Prop) (B : Nat → Option Obj) (n₀ : Nat) (X : World) (ob : Nat) (r : St × Option Nat) (e : Ending) (V : World) : Prop := e = .returned (.tuple #[.int .i64 ((r.2.getD 0 : Nat) : Int), .bool r.2.isSome]) ∧ R3X sb B n₀ X ob r.1.1 r.1.2 V

/-- New bytes are fresh. -/
theorem HpX.fresh {sb : Nat → Prop} {B : Nat → Option Obj} {n₀ : Nat} {X : World} {ob : Nat} {es : List (Int × List Int)} {cur : List (List Int)} {x1 : Option Addr} {k1 : Nat} {V1 : List Value} {x2 : Option Addr} {k2 : Nat} {V2 : List Value} {V : World} (h : HpX sb B n₀ X ob es cur x1 k1 V1 x2 k2 V2 V) {g : Nat} (hg : V.heap.size ≤ g) {o n c : Nat} : (∀ q, (Value.slice (some ⟨g, o, none⟩) n c).ownBlock = some q → ¬ blkP (.slice x1 es.length k1) V1 q ∧ ¬ blkP (.slice x2 cur.length k2) V2 q ∧ q ≠ ob) ∧ (∀ q, (Value.slice (some ⟨g, o, none⟩) n c).ownBlock = some q → ¬ sb q) := by
  have ho := h.o.lt
  have hs := h.ls
  refine ⟨fun q e => ?_, fun q e hq => ?_⟩
  · simp only [Value.ownBlock, Option.some.injEq] at e
    subst e
    exact ⟨fun hh => by have := (h.a.e.lt hh).2; omega, fun hh => by have := (h.a.p.lt hh).2; omega, fun hh => by omega⟩
  · simp only [Value.ownBlock, Option.some.injEq] at e
    have := hs q hq
    omega
theorem Sl64.rb {w : World} {g d : Nat} {zs : List Int} (h : Sl64 w g zs) : Rb w (.slice (some ⟨g, 0, none⟩) 64 d) zs :=
  ⟨g, 0, d, by rw [h.len], fun i hi => by rw [Nat.zero_add]; exact h.cell i (by rw [← h.len]; exact hi)⟩

set_option maxHeartbeats 8000000 in
theorem l7PutIn_any (sb : Nat → Prop) (B : Nat → Option Obj) (n₀ : Nat) (X : World) (ob : Nat) (es : List (Int × List Int)) (cur : List (List Int)) (x1 : Option Addr) (k1 : Nat) (V1 : List Value) (x2 : Option Addr) (k2 : Nat) (V2 : List Value) (pn cb so n cc : Nat) (old cs : List Int) (w : World) (hS : HpX sb B n₀ X ob es cur x1 k1 V1 x2 k2 V2 w) (hok : okP cur) (hc12 : cur.length ≤ 12) (hel : es.length ≤ 900) (hp : cur[pn]? = some old) (hC : Cx sb cb so B cs n) :
    Calls Tryz.prog 163 #[.pointer (some ⟨ob, 0, none⟩), .int .i64 pn, .slice (some ⟨cb, so, none⟩) n cc] w fun e w' => PiPost sb B n₀ X ob (piS (es, cur) pn old cs) e w' := by
  have hpl : pn < cur.length := (List.getElem?_eq_some_iff.1 hp).1
  have hF := hok.at hp
  have hl64 := hF.pg.len
  obtain ⟨W0, hWB, hWr⟩ := hC.rd
  obtain ⟨gp, ay, cy, rfl, c8, hyr, hyl⟩ := hS.page hp
  rw [hl64] at c8 hyl
  have hcn := hC.ln
  have h1 := hC.h1
  have h20 := hC.h20
  have hcr := hS.rd hC.i hWB hWr
  have HCi : Hid (sb cb) := hC.i
  obtain ⟨o0, o1, _, _⟩ := hS.o
  have hpi : (pn : Int) < (cur.length : Int) := by omega
  have hput := l2Put_q ay old cs cy cb so n cc w hyr hF hcn h1 h20 hcr
  have HPut : Hid (Calls Tryz.prog 146 #[.slice ay 64 cy, .slice (some ⟨cb, so, none⟩) n cc] w fun e w' => PqPost old cs n w e w') := hput
  have HS : Hid (HpX sb B n₀ X ob es cur x1 k1 V1 (some ⟨gp, 0, none⟩) k2 V2 w) := hS
  have HOk : Hid (okP cur) := hok
  have HWr : Hid (Reads W0 (some ⟨cb, so, none⟩) cs) := hWr
  have HP : Hid (cur[pn]? = some old) := hp
  have HB : Hid (∀ z ∈ cs, 0 ≤ z ∧ z ≤ 255) := hC.bd
  clear hput hS hok hWr hp hcr hC
  go_enter Tryz.func163, Tryz.ntmps163
  go_wp2_with fail
  refine HPut.out.mono ?_
  rintro e w1 ⟨g1, hq0, hqn⟩
  have hS := HS.out.below g1
  obtain ⟨q, hq⟩ : ∃ q, putQ old n = q := ⟨_, rfl⟩
  have HQ : Hid (putQ old n = q) := hq
  rw [hq] at hq0 hqn
  have HQc : Hid (putQ old cs.length = q) := by show _ = _; rw [hcn]; exact hq
  clear hq HPut c8 o0 o1
  by_cases h0 : q = 0
  · subst h0
    obtain ⟨g, dd, rfl, hdd, hg, hs64⟩ := hq0 rfl
    have hPf : Fine (putP old cs) := fine_put hF HB.out (by omega) HQc.out
    have hfr := HS.out.fresh hg (o := 0) (n := 64) (c := dd)
    have hcon := l7Turn_any sb B n₀ X ob es cur x1 k1 V1 (some ⟨gp, 0, none⟩) k2 V2 pn (some ⟨g, 0, none⟩) dd (putP old cs) w1 hS (by omega) HOk.out.bd hPf.pg.bd hPf.pg.len hc12 (by omega) hs64.rb hfr.1
    have HR : Hid (piS (es, cur) pn old cs = (tnS (es, cur) pn (putP old cs), some (putS old))) := by show _ = _; unfold piS; rw [if_pos HQc.out]
    clear hq0 hqn hS HS hfr hs64 hyr
    go_wp2_with fail
    refine hcon.mono ?_
    rintro e w2 ⟨rfl, hR⟩
    clear hcon
    go_wp2_with fail
    go_ret2
    refine ⟨?_, ?_⟩
    · rw [HR.out]; rfl
    · rw [HR.out]; exact hR
  · have e0 := hqn h0
    subst e0
    clear hq0 hqn
    by_cases h8 : q = 8
    · subst h8
      have c8 := hS.page HP.out
      obtain ⟨gp', ay', cy', e9, c8, hyr, hyl'⟩ := c8
      cases e9
      rw [hl64] at c8 hyl'
      obtain ⟨o0, o1, _, _⟩ := hS.o
      have hcp := l2Compact_any ay' old cy' w1 hyr hF hyl'
      have HCp : Hid (Calls Tryz.prog 177 #[.slice ay' 64 cy'] w1 fun e w' => ∃ g, e = .returned (.slice (some ⟨g, 0, none⟩) 64 64) ∧ Below w1.heap.size w1 w' ∧ w1.heap.size ≤ g ∧ Sl64 w' g (cpP old (nb old 0))) := hcp
      have hCf : Fine (cpL old) := fine_compact hF
      have HS1 : Hid (HpX sb B n₀ X ob es cur x1 k1 V1 (some ⟨gp, 0, none⟩) k2 V2 w1) := hS
      clear hcp hS HS hyr
      go_wp2_with fail
      refine HCp.out.mono ?_
      rintro e w2 ⟨g, rfl, g2, hg, hs64⟩
      have hfr := HS1.out.fresh hg (o := 0) (n := 64) (c := 64)
      have hcon := l7Turn_any sb B n₀ X ob es cur x1 k1 V1 (some ⟨gp, 0, none⟩) k2 V2 pn (some ⟨g, 0, none⟩) 64 (cpL old) w2 (HS1.out.below g2) (by omega) HOk.out.bd hCf.pg.bd hCf.pg.len hc12 (by omega) hs64.rb hfr.1
      clear hfr hs64 HS1 HCp g2 c8 o0 o1
      go_wp2_with fail
      refine hcon.mono ?_
      rintro e w3 ⟨rfl, y1, m1, W1, y2, m2, W2, hS3⟩
      clear hcon
      have hlen : (wpL cur pn (cpL old)).length = cur.length := wpL_len hpl
      have hp3 : (wpL cur pn (cpL old))[pn]? = some (cpL old) := wpL_at hpl
      have hel3 : (tnE es cur pn (cpL old)).length ≤ 901 := by have := tn_len es cur pn (cpL old); omega
      have hok3 : okP (wpL cur pn (cpL old)) := HOk.out.turn pn hCf
      obtain ⟨es3, hes⟩ : ∃ es3, tnE es cur pn (cpL old) = es3 := ⟨_, rfl⟩
      obtain ⟨cur3, hcu⟩ : ∃ cur3, wpL cur pn (cpL old) = cur3 := ⟨_, rfl⟩
      rw [hes, hcu] at hS3
      rw [hes] at hel3
      rw [hcu] at hlen hp3 hok3
      have HT : Hid (tnS (es, cur) pn (cpL old) = (es3, cur3)) := by show _ = _; unfold tnS; dsimp only; rw [hes, hcu]
      clear hes hcu
      obtain ⟨gp3, ay3, cy3, rfl, c83, hyr3, hyl3⟩ := hS3.page hp3
      rw [hCf.pg.len] at c83 hyl3
      have hput := l2Put_q ay3 (cpL old) cs cy3 cb so n cc w3 hyr3 hCf hcn h1 h20 (hS3.rd HCi.out hWB HWr.out)
      have HPut : Hid (Calls Tryz.prog 146 #[.slice ay3 64 cy3, .slice (some ⟨cb, so, none⟩) n cc] w3 fun e w' => PqPost (cpL old) cs n w3 e w') := hput
      obtain ⟨o0, o1, _, _⟩ := hS3.o
      have hpi3 : (pn : Int) < (cur3.length : Int) := by omega
      have HS3 : Hid (HpX sb B n₀ X ob es3 cur3 y1 m1 W1 (some ⟨gp3, 0, none⟩) m2 W2 w3) := hS3
      clear hput hS3 hyr3
      go_wp2_with fail
      refine HPut.out.mono ?_
      rintro e w4 ⟨g4, hq0, hqn⟩
      obtain ⟨q2, hq2⟩ : ∃ q, putQ (cpL old) n = q := ⟨_, rfl⟩
      have HQ2 : Hid (putQ (cpL old) cs.length = q2) := by show _ = _; rw [hcn]; exact hq2
      rw [hq2] at hq0 hqn
      clear hq2 HPut c83 o0 o1
      by_cases h20' : q2 = 0
      · subst h20'
        obtain ⟨g, dd, rfl, hdd, hg, hs64⟩ := hq0 rfl
        have hPf : Fine (putP (cpL old) cs) := fine_put hCf HB.out (by omega) HQ2.out
        have hfr := HS3.out.fresh hg (o := 0) (n := 64) (c := dd)
        have hcon := l7Turn_any sb B n₀ X ob es3 cur3 y1 m1 W1 (some ⟨gp3, 0, none⟩) m2 W2 pn (some ⟨g, 0, none⟩) dd (putP (cpL old) cs) w4 (HS3.out.below g4) (by omega) hok3.bd hPf.pg.bd hPf.pg.len (by omega) (by omega) hs64.rb hfr.1
        have HR : Hid (piS (es, cur) pn old cs = (tnS (es3, cur3) pn (putP (cpL old) cs), some (putS (cpL old)))) := by show _ = _; unfold piS; rw [HQc.out, if_neg (by decide), if_pos rfl, HQ2.out, if_pos rfl, HT.out]
        clear hq0 hqn HS3 hfr hs64
        go_wp2_with fail
        refine hcon.mono ?_
        rintro e w5 ⟨rfl, hR⟩
        clear hcon
        go_wp2_with fail
        go_ret2
        refine ⟨?_, ?_⟩
        · rw [HR.out]; rfl
        · rw [HR.out]; exact hR
      · have e0 := hqn h20'
        subst e0
        clear hq0 hqn
        have HR : Hid (piS (es, cur) pn old cs = ((es3, cur3), none)) := by show _ = _; unfold piS; rw [HQc.out, if_neg (by decide), if_pos rfl, HQ2.out, if_neg h20', HT.out]
        have d0 : (q2 != 0) = true := by simpa using h20'
        have hS5 := HS3.out.below g4
        clear HS3
        go_wp2_with fail
        go_ret2
        refine ⟨?_, ?_⟩
        · rw [HR.out]; rfl
        · rw [HR.out]; exact ⟨_, _, _, _, _, _, hS5⟩
    · have HR : Hid (piS (es, cur) pn old cs = ((es, cur), none)) := by show _ = _; unfold piS; rw [HQc.out, if_neg h0, if_neg h8]
      have d0 : (q != 0) = true := by simpa using h0
      have d8 : (q == 8) = false := by simpa using h8
      clear HS
      go_wp2_with fail
      go_ret2
      refine ⟨?_, ?_⟩
      · rw [HR.out]; rfl
      · rw [HR.out]; exact ⟨_, _, _, _, _, _, hS⟩


/-- The code of a cell of n bytes turned at slot s. -/
def setQ (zs : List Int) (s n : Nat) : Int := if n ≤ ln zs s then 0 else if freeN zs + ln zs s < n then 9 else if nb zs 1 < 2 + 2 * nb zs 0 + n then 8 else 0
/-- The page then. -/
def setP (zs : List Int) (s : Nat) (cs : List Int) : List Int := if cs.length ≤ ln zs s then spanSet (splice zs (pl zs s + ln zs s - cs.length) cs) s (pl zs s + ln zs s - cs.length) cs.length else spanSet (splice (zs.set 1 ((nb zs 1 - cs.length : Nat) : Int)) (nb zs 1 - cs.length) cs) s (nb zs 1 - cs.length) cs.length
theorem set1_self {zs : List Int} (h : IsPg zs) : (zs.set 0 ((nb zs 0 : Nat) : Int)).set 1 ((nb zs 1 : Nat) : Int) = zs := by
  rw [set0_self h]
  apply byt_ext (by simp)
  intro i hi
  rw [byt_set _ _ _ _ (by rw [h.len]; omega)]
  split
  · rename_i e; rw [e, nb_byt h]
  · rfl
theorem fine_set {zs cs : List Int} {s : Nat} (h : Fine zs) (hs : s < nb zs 0) (he : ln zs s ≠ 0) (hb : ∀ z ∈ cs, 0 ≤ z ∧ z ≤ 255) (h1 : 1 ≤ cs.length) (hq : setQ zs s cs.length = 0) : Fine (setP zs s cs) := by
  have hd := h.dirs
  unfold setP
  unfold setQ at hq
  split
  · rename_i hle
    have hF := (dirs_inner (s := s) hd hb h1 hs he hle).fine
    unfold stand at hF
    rw [set1_self h.pg] at hF
    exact hF
  · rename_i hle
    rw [if_neg hle] at hq
    have hroom : 2 + 2 * nb zs 0 + cs.length ≤ nb zs 1 := by
      split at hq
      · exact absurd hq (by decide)
      · split at hq
        · exact absurd hq (by decide)
        · omega
    have hF := (dirs_ahead (m := nb zs 0) (s := s) hd hb h1 h.few hs (.inl rfl) hroom).fine
    unfold stand at hF
    rw [set0_self h.pg] at hF
    exact hF
/-- What l2Set hands back. -/
def SqPost (zs cs : List Int) (s n : Nat) (w : World) (e : Ending) (w' : World) : Prop := Below w.heap.size w w' ∧ (setQ zs s n = 0 → ∃ g dd, e = .returned (.tuple #[.slice (some ⟨g, 0, none⟩) 64 dd, .int .i64 0]) ∧ 64 ≤ dd ∧ w.heap.size ≤ g ∧ Sl64 w' g (setP zs s cs)) ∧ (setQ zs s n ≠ 0 → e = .returned (.tuple #[.slice none 0 0, .int .i64 (setQ zs s n)]))
theorem SqPost.ok {zs cs ys : List Int} {s n g dd : Nat} {w w' : World} (h : setQ zs s n = 0 ∧ setP zs s cs = ys) (gB : Below w.heap.size w w') (hdd : 64 ≤ dd) (hgw : w.heap.size ≤ g) (hA : Sl64 w' g ys) : SqPost zs cs s n w (.returned (.tuple #[.slice (some ⟨g, 0, none⟩) 64 dd, .int .i64 0])) w' :=
  ⟨gB, fun _ => ⟨g, dd, rfl, hdd, hgw, by rw [h.2]; exact hA⟩, fun hq => absurd h.1 hq⟩
theorem SqPost.bad {zs cs : List Int} {s n : Nat} {q : Int} {w w' : World} (h : setQ zs s n = q) (hq : q ≠ 0) (gB : Below w.heap.size w w') : SqPost zs cs s n w (.returned (.tuple #[.slice none 0 0, .int .i64 q])) w' :=
  ⟨gB, fun h0 => absurd (h.symm.trans h0) hq, fun _ => by rw [h]⟩

set_option maxHeartbeats 4000000 in
theorem l2Set_q (a : Option Addr) (zs cs : List Int) (c s sb so n d : Nat) (w : World) (hr : Reads w a zs) (h : Fine zs) (hs : s < nb zs 0) (he : empB zs s = false) (hn : cs.length = n) (h1 : 1 ≤ n) (h64 : n ≤ 64) (hb : ∀ z ∈ cs, 0 ≤ z ∧ z ≤ 255) (hcell : Reads w (some ⟨sb, so, none⟩) cs) :
    Calls Tryz.prog 176 #[.slice a 64 c, .int .i64 s, .slice (some ⟨sb, so, none⟩) n d] w fun e w' => SqPost zs cs s n w e w' := by
  have hd := h.dirs
  have hfew := h.few
  have hlz := emp_ln h hs he
  have hpl := hd.place s hs
  have hlow := hd.low
  have hdir := hd.dir
  obtain ⟨l, hl⟩ : ∃ l, l = nb zs (3 + 2 * s) := ⟨_, rfl⟩
  obtain ⟨p, hp⟩ : ∃ p, p = nb zs (2 + 2 * s) := ⟨_, rfl⟩
  have HL : Hid (nb zs (3 + 2 * s) = l) := hl.symm
  have HP : Hid (nb zs (2 + 2 * s) = p) := hp.symm
  simp only [pl, ln] at hlz hpl
  rw [← hl] at hlz hpl
  rw [← hp] at hpl
  have HNl : Hid (cs.length = n) := hn
  have hs16 : s < 16 := by omega
  by_cases hle : n ≤ l
  · have HQ0 : Hid (setQ zs s n = 0 ∧ setP zs s cs = spanSet (splice zs (p + l - n) cs) s (p + l - n) n) := by
      refine ⟨?_, ?_⟩
      · unfold setQ; rw [if_pos (by simp only [ln]; omega)]
      · unfold setP; rw [if_pos (by simp only [ln]; omega)]; simp only [pl, ln]; rw [HL.out, HP.out, hn]
    have dle : (n : Int) ≤ (l : Int) := by omega
    have e2 : (p : Int) + (l : Int) - (n : Int) = ((p + l - n : Nat) : Int) := by omega
    clear hl hp hd hn
    go_enter Tryz.func176, Tryz.ntmps176
    go_wp2_with fail
    refine (l2Size_any a zs c s _ hr h.pg (by omega)).mono ?_
    rintro e w' ⟨rfl, hw'⟩
    subst w'
    rw [HL.out]
    go_wp2_with fail
    refine (l2Copy_any a zs c _ hr h.pg.len).mono ?_
    rintro e w2 ⟨g, dd, rfl, hdd, gB, hgw, hA⟩
    have hsrc := hcell.below gB (Nat.le_refl _)
    go_wp2_with fail
    refine (l2Place_any a zs c s _ (hr.below gB (Nat.le_refl _)) h.pg (by omega)).mono ?_
    rintro e w' ⟨rfl, hw'⟩
    subst w'
    rw [HP.out]
    go_wp2_with fail
    refine (l2Stand_any g dd s (p + l - n) n sb so d _ cs _ hA hdd HNl.out h1 (by omega) (by omega) hsrc).mono ?_
    rintro e w9 ⟨rfl, ht9, hA9⟩
    have gB9 := gB.trans (ht9.toBelow gB.size hgw)
    clear ht9 hA gB hsrc
    go_wp2_with fail
    go_ret2
    exact SqPost.ok HQ0.out gB9 hdd hgw hA9
  · have dle : ¬ (n : Int) ≤ (l : Int) := by omega
    obtain ⟨f, hf⟩ : ∃ f, f = freeN zs := ⟨_, rfl⟩
    have HFr : Hid (freeN zs = f) := hf.symm
    have hf64 : f ≤ 64 := by rw [hf]; unfold freeN; omega
    obtain ⟨k, hk⟩ : ∃ k, k = nb zs 0 := ⟨_, rfl⟩
    obtain ⟨lo, hlo⟩ : ∃ lo, lo = nb zs 1 := ⟨_, rfl⟩
    have HK : Hid (nb zs 0 = k) := hk.symm
    have HLo : Hid (nb zs 1 = lo) := hlo.symm
    have hl' : ¬ n ≤ ln zs s := by simp only [ln]; rw [HL.out]; exact hle
    have HQ9 : Hid (f + l < n → setQ zs s n = 9) := fun h9 => by unfold setQ; rw [if_neg hl', if_pos (by simp only [ln]; rw [HL.out, HFr.out]; exact h9)]
    have HQ8 : Hid (¬ f + l < n → lo < 2 + 2 * k + n → setQ zs s n = 8) := fun h9 h8 => by unfold setQ; rw [if_neg hl', if_neg (by simp only [ln]; rw [HL.out, HFr.out]; exact h9), if_pos (by rw [HK.out, HLo.out]; exact h8)]
    have HQ0 : Hid (¬ f + l < n → ¬ lo < 2 + 2 * k + n → setQ zs s n = 0 ∧ setP zs s cs = spanSet (splice (zs.set 1 ((lo - n : Nat) : Int)) (lo - n) cs) s (lo - n) n) := fun h9 h8 => by
      refine ⟨?_, ?_⟩
      · unfold setQ; rw [if_neg hl', if_neg (by simp only [ln]; rw [HL.out, HFr.out]; exact h9), if_neg (by rw [HK.out, HLo.out]; exact h8)]
      · unfold setP; rw [if_neg (by rw [hn]; exact hl'), HLo.out, hn]
    clear hl'
    rw [← hk] at hfew hdir hs
    rw [← hlo] at hlow hdir hpl
    clear hl hp hd hn hf hk hlo
    go_enter Tryz.func176, Tryz.ntmps176
    go_wp2_with fail
    refine (l2Size_any a zs c s _ hr h.pg (by omega)).mono ?_
    rintro e w' ⟨rfl, hw'⟩
    subst w'
    rw [HL.out]
    go_wp2_with fail
    refine (l2Copy_any a zs c _ hr h.pg.len).mono ?_
    rintro e w2 ⟨g, dd, rfl, hdd, gB, hgw, hA⟩
    have hsrc := hcell.below gB (Nat.le_refl _)
    have hr2 := hr.below gB (Nat.le_refl _)
    go_wp2_with fail
    refine (l2Free_any a zs c _ hr2 h).mono ?_
    rintro e w' ⟨rfl, hw'⟩
    subst w'
    rw [HFr.out]
    by_cases hfl : (f : Int) + (l : Int) < (n : Int)
    · go_wp2_with fail
      go_ret2
      exact SqPost.bad (HQ9.out (by omega)) (by decide) gB
    · go_wp2_with fail
      refine (l2Low_any a zs c _ hr2 h.pg).mono ?_
      rintro e w' ⟨rfl, hw'⟩
      subst w'
      rw [HLo.out]
      go_wp2_with fail
      refine (l2Count_any a zs c _ hr2 h.pg).mono ?_
      rintro e w' ⟨rfl, hw'⟩
      subst w'
      rw [HK.out]
      by_cases hlw : (lo : Int) - (n : Int) < 2 + 2 * (k : Int)
      · go_wp2_with fail
        go_ret2
        exact SqPost.bad (HQ8.out (by omega) (by omega)) (by decide) gB
      · obtain ⟨q, hq⟩ : ∃ q, lo = q + n := ⟨lo - n, by omega⟩
        have HF := HQ0.out (by omega) (by omega)
        rw [hq, Nat.add_sub_cancel] at HF
        have HF : Hid (setQ zs s n = 0 ∧ setP zs s cs = spanSet (splice (zs.set 1 (q : Int)) q cs) s q n) := HF
        have hpn : (lo : Int) - (n : Int) = (q : Int) := by omega
        have c0 := hA.cell 1 (by omega)
        have f0 := hA.frozen 1
        have hq255 : q ≤ 64 := by omega
        clear hq
        go_upto_region 12 with (fail)
        have hA1 := hA.set 1 (by omega) (q : Int)
        have gB1 := gB.setCell (p := ⟨g, 1, none⟩) hgw (.int .u8 (q : Int))
        have hsr1 : Reads (w2.setCell ⟨g, 1, none⟩ (.int .u8 (q : Int))) (some ⟨sb, so, none⟩) cs := hcell.below gB1 (Nat.le_refl _)
        clear c0 f0 hA gB hsrc hr2
        generalize w2.setCell ⟨g, 1, none⟩ (.int .u8 (q : Int)) = V1 at hA1 gB1 hsr1 ⊢
        go_wp2_with fail
        refine (l2Stand_any g dd s q n sb so d _ cs _ hA1 hdd HNl.out h1 (by omega) (by omega) hsr1).mono ?_
        rintro e w9 ⟨rfl, ht9, hA9⟩
        have gB9 := gB1.trans (ht9.toBelow gB1.size hgw)
        clear ht9 hA1 gB1 hsr1
        go_wp2_with fail
        go_ret2
        exact SqPost.ok HF.out gB9 hdd hgw hA9


/-- A cell turned at slot sl of page p. -/
def stS (s : St) (p sl : Nat) (old cs : List Int) : St × Bool :=
  if setQ old sl cs.length = 0 then (tnS s p (setP old sl cs), true)
  else if setQ old sl cs.length = 8 then
    (if setQ (cpL old) sl cs.length = 0 then (tnS (tnS s p (cpL old)) p (setP (cpL old) sl cs), true) else (tnS s p (cpL old), false))
  else (s, false)
/-- A slot with a cell. -/
structure HasS (zs : List Int) (sl : Nat) : Prop where
  lt : sl < nb zs 0
  em : empB zs sl = false
theorem HasS.nz {zs : List Int} {sl : Nat} (h : HasS zs sl) (hF : Fine zs) : ln zs sl ≠ 0 := emp_ln hF h.lt h.em
theorem HasS.cp {zs : List Int} {sl : Nat} (h : HasS zs sl) (hF : Fine zs) : HasS (cpL zs) sl := by
  have C := cps_all hF (nb zs 0) (Nat.le_refl _)
  have hl := h.nz hF
  have h0 : sl < nb (cpL zs) 0 := by unfold cpL; rw [C.h0]; exact h.lt
  refine ⟨h0, ?_⟩
  have e : ln (cpL zs) sl = ln zs sl := (C.used sl h.lt h.em).2.1
  unfold empB
  have : nb (cpL zs) (3 + 2 * sl) ≠ 0 := by show ln (cpL zs) sl ≠ 0; rw [e]; exact hl
  simp [this]
/-- What l7Set and turnCell hand back. -/
def TsPost (sb : Nat → Prop) (B : Nat → Option Obj) (n₀ : Nat) (X : World) (ob : Nat) (r : St × Bool) (e : Ending) (V : World) : Prop := e = .returned (.bool r.2) ∧ R3X sb B n₀ X ob r.1.1 r.1.2 V

set_option maxHeartbeats 8000000 in
theorem l7Set_any (sb : Nat → Prop) (B : Nat → Option Obj) (n₀ : Nat) (X : World) (ob : Nat) (es : List (Int × List Int)) (cur : List (List Int)) (x1 : Option Addr) (k1 : Nat) (V1 : List Value) (x2 : Option Addr) (k2 : Nat) (V2 : List Value) (pn sl cb so n cc : Nat) (old cs : List Int) (w : World) (hS : HpX sb B n₀ X ob es cur x1 k1 V1 x2 k2 V2 w) (hok : okP cur) (hc12 : cur.length ≤ 12) (hel : es.length ≤ 900) (hp : cur[pn]? = some old) (hh : HasS old sl) (hC : Cx sb cb so B cs n) :
    Calls Tryz.prog 127 #[.pointer (some ⟨ob, 0, none⟩), .int .i64 pn, .int .i64 sl, .slice (some ⟨cb, so, none⟩) n cc] w fun e w' => TsPost sb B n₀ X ob (stS (es, cur) pn sl old cs) e w' := by
  have hpl : pn < cur.length := (List.getElem?_eq_some_iff.1 hp).1
  have hF := hok.at hp
  have hl64 := hF.pg.len
  obtain ⟨W0, hWB, hWr⟩ := hC.rd
  obtain ⟨gp, ay, cy, rfl, c8, hyr, hyl⟩ := hS.page hp
  rw [hl64] at c8 hyl
  have hcn := hC.ln
  have h1 := hC.h1
  have h20 := hC.h20
  have hcr := hS.rd hC.i hWB hWr
  have HCi : Hid (sb cb) := hC.i
  obtain ⟨o0, o1, _, _⟩ := hS.o
  have hpi : (pn : Int) < (cur.length : Int) := by omega
  have HB : Hid (∀ z ∈ cs, 0 ≤ z ∧ z ≤ 255) := hC.bd
  have hput := l2Set_q ay old cs cy sl cb so n cc w hyr hF hh.lt hh.em hcn h1 (by omega) HB.out hcr
  have HPut : Hid (Calls Tryz.prog 176 #[.slice ay 64 cy, .int .i64 sl, .slice (some ⟨cb, so, none⟩) n cc] w fun e w' => SqPost old cs sl n w e w') := hput
  have HS : Hid (HpX sb B n₀ X ob es cur x1 k1 V1 (some ⟨gp, 0, none⟩) k2 V2 w) := hS
  have HOk : Hid (okP cur) := hok
  have HWr : Hid (Reads W0 (some ⟨cb, so, none⟩) cs) := hWr
  have HP : Hid (cur[pn]? = some old) := hp
  clear hput hS hok hWr hp hcr hC
  go_enter Tryz.func127, Tryz.ntmps127
  go_wp2_with fail
  refine HPut.out.mono ?_
  rintro e w1 ⟨g1, hq0, hqn⟩
  have hS := HS.out.below g1
  obtain ⟨q, hq⟩ : ∃ q, setQ old sl n = q := ⟨_, rfl⟩
  have HQ : Hid (setQ old sl n = q) := hq
  rw [hq] at hq0 hqn
  have HQc : Hid (setQ old sl cs.length = q) := by show _ = _; rw [hcn]; exact hq
  clear hq HPut c8 o0 o1
  by_cases h0 : q = 0
  · subst h0
    obtain ⟨g, dd, rfl, hdd, hg, hs64⟩ := hq0 rfl
    have hPf : Fine (setP old sl cs) := fine_set hF hh.lt (hh.nz hF) HB.out (by omega) HQc.out
    have hfr := HS.out.fresh hg (o := 0) (n := 64) (c := dd)
    have hcon := l7Turn_any sb B n₀ X ob es cur x1 k1 V1 (some ⟨gp, 0, none⟩) k2 V2 pn (some ⟨g, 0, none⟩) dd (setP old sl cs) w1 hS (by omega) HOk.out.bd hPf.pg.bd hPf.pg.len hc12 (by omega) hs64.rb hfr.1
    have HR : Hid (stS (es, cur) pn sl old cs = (tnS (es, cur) pn (setP old sl cs), true)) := by show _ = _; unfold stS; rw [if_pos HQc.out]
    clear hq0 hqn hS HS hfr hs64 hyr
    go_wp2_with fail
    refine hcon.mono ?_
    rintro e w2 ⟨rfl, hR⟩
    clear hcon
    go_wp2_with fail
    go_ret
    refine ⟨?_, ?_⟩
    · rw [HR.out]; rfl
    · rw [HR.out]; exact hR
  · have e0 := hqn h0
    subst e0
    clear hq0 hqn
    by_cases h8 : q = 8
    · subst h8
      have c8 := hS.page HP.out
      obtain ⟨gp', ay', cy', e9, c8, hyr, hyl'⟩ := c8
      cases e9
      rw [hl64] at c8 hyl'
      obtain ⟨o0, o1, _, _⟩ := hS.o
      have hcp := l2Compact_any ay' old cy' w1 hyr hF hyl'
      have HCp : Hid (Calls Tryz.prog 177 #[.slice ay' 64 cy'] w1 fun e w' => ∃ g, e = .returned (.slice (some ⟨g, 0, none⟩) 64 64) ∧ Below w1.heap.size w1 w' ∧ w1.heap.size ≤ g ∧ Sl64 w' g (cpP old (nb old 0))) := hcp
      have hCf : Fine (cpL old) := fine_compact hF
      have hh2 := hh.cp hF
      have HS1 : Hid (HpX sb B n₀ X ob es cur x1 k1 V1 (some ⟨gp, 0, none⟩) k2 V2 w1) := hS
      clear hcp hS HS hyr
      go_wp2_with fail
      refine HCp.out.mono ?_
      rintro e w2 ⟨g, rfl, g2, hg, hs64⟩
      have hfr := HS1.out.fresh hg (o := 0) (n := 64) (c := 64)
      have hcon := l7Turn_any sb B n₀ X ob es cur x1 k1 V1 (some ⟨gp, 0, none⟩) k2 V2 pn (some ⟨g, 0, none⟩) 64 (cpL old) w2 (HS1.out.below g2) (by omega) HOk.out.bd hCf.pg.bd hCf.pg.len hc12 (by omega) hs64.rb hfr.1
      clear hfr hs64 HS1 HCp g2 c8 o0 o1
      go_wp2_with fail
      refine hcon.mono ?_
      rintro e w3 ⟨rfl, y1, m1, W1, y2, m2, W2, hS3⟩
      clear hcon
      have hlen : (wpL cur pn (cpL old)).length = cur.length := wpL_len hpl
      have hp3 : (wpL cur pn (cpL old))[pn]? = some (cpL old) := wpL_at hpl
      have hel3 : (tnE es cur pn (cpL old)).length ≤ 901 := by have := tn_len es cur pn (cpL old); omega
      have hok3 : okP (wpL cur pn (cpL old)) := HOk.out.turn pn hCf
      obtain ⟨es3, hes⟩ : ∃ es3, tnE es cur pn (cpL old) = es3 := ⟨_, rfl⟩
      obtain ⟨cur3, hcu⟩ : ∃ cur3, wpL cur pn (cpL old) = cur3 := ⟨_, rfl⟩
      rw [hes, hcu] at hS3
      rw [hes] at hel3
      rw [hcu] at hlen hp3 hok3
      have HT : Hid (tnS (es, cur) pn (cpL old) = (es3, cur3)) := by show _ = _; unfold tnS; dsimp only; rw [hes, hcu]
      clear hes hcu
      obtain ⟨gp3, ay3, cy3, rfl, c83, hyr3, hyl3⟩ := hS3.page hp3
      rw [hCf.pg.len] at c83 hyl3
      have hput := l2Set_q ay3 (cpL old) cs cy3 sl cb so n cc w3 hyr3 hCf hh2.lt hh2.em hcn h1 (by omega) HB.out (hS3.rd HCi.out hWB HWr.out)
      have HPut : Hid (Calls Tryz.prog 176 #[.slice ay3 64 cy3, .int .i64 sl, .slice (some ⟨cb, so, none⟩) n cc] w3 fun e w' => SqPost (cpL old) cs sl n w3 e w') := hput
      obtain ⟨o0, o1, _, _⟩ := hS3.o
      have hpi3 : (pn : Int) < (cur3.length : Int) := by omega
      have HS3 : Hid (HpX sb B n₀ X ob es3 cur3 y1 m1 W1 (some ⟨gp3, 0, none⟩) m2 W2 w3) := hS3
      clear hput hS3 hyr3
      go_wp2_with fail
      refine HPut.out.mono ?_
      rintro e w4 ⟨g4, hq0, hqn⟩
      obtain ⟨q2, hq2⟩ : ∃ q, setQ (cpL old) sl n = q := ⟨_, rfl⟩
      have HQ2 : Hid (setQ (cpL old) sl cs.length = q2) := by show _ = _; rw [hcn]; exact hq2
      rw [hq2] at hq0 hqn
      clear hq2 HPut c83 o0 o1
      by_cases h20' : q2 = 0
      · subst h20'
        obtain ⟨g, dd, rfl, hdd, hg, hs64⟩ := hq0 rfl
        have hPf : Fine (setP (cpL old) sl cs) := fine_set hCf hh2.lt (hh2.nz hCf) HB.out (by omega) HQ2.out
        have hfr := HS3.out.fresh hg (o := 0) (n := 64) (c := dd)
        have hcon := l7Turn_any sb B n₀ X ob es3 cur3 y1 m1 W1 (some ⟨gp3, 0, none⟩) m2 W2 pn (some ⟨g, 0, none⟩) dd (setP (cpL old) sl cs) w4 (HS3.out.below g4) (by omega) hok3.bd hPf.pg.bd hPf.pg.len (by omega) (by omega) hs64.rb hfr.1
        have HR : Hid (stS (es, cur) pn sl old cs = (tnS (es3, cur3) pn (setP (cpL old) sl cs), true)) := by show _ = _; unfold stS; rw [HQc.out, if_neg (by decide), if_pos rfl, HQ2.out, if_pos rfl, HT.out]
        clear hq0 hqn HS3 hfr hs64
        go_wp2_with fail
        refine hcon.mono ?_
        rintro e w5 ⟨rfl, hR⟩
        clear hcon
        go_wp2_with fail
        go_ret
        refine ⟨?_, ?_⟩
        · rw [HR.out]; rfl
        · rw [HR.out]; exact hR
      · have e0 := hqn h20'
        subst e0
        clear hq0 hqn
        have HR : Hid (stS (es, cur) pn sl old cs = ((es3, cur3), false)) := by show _ = _; unfold stS; rw [HQc.out, if_neg (by decide), if_pos rfl, HQ2.out, if_neg h20', HT.out]
        have d0 : (q2 != 0) = true := by simpa using h20'
        have hS5 := HS3.out.below g4
        clear HS3
        go_wp2_with fail
        go_ret
        refine ⟨?_, ?_⟩
        · rw [HR.out]; rfl
        · rw [HR.out]; exact ⟨_, _, _, _, _, _, hS5⟩
    · have HR : Hid (stS (es, cur) pn sl old cs = ((es, cur), false)) := by show _ = _; unfold stS; rw [HQc.out, if_neg h0, if_neg h8]
      have d0 : (q != 0) = true := by simpa using h0
      have d8 : (q == 8) = false := by simpa using h8
      clear HS
      go_wp2_with fail
      go_ret
      refine ⟨?_, ?_⟩
      · rw [HR.out]; rfl
      · rw [HR.out]; exact ⟨_, _, _, _, _, _, hS⟩

end Go.Proofs.YtnfolgoloaeanaaGreat

