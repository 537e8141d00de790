/-
  What DeleteEdits answers is not too much.
-/
import Derived.Test.YtnfolgoloaeanaaGreatIIde
import Derived.Test.YtnfolgoloaeanaaGreatILpi
import Derived.Test.YtnfolgoloaeanaaGreatIPea
import Derived.Test.YtnfolgoloaeanaaGreatIBas
import Derived.Defers

namespace Go.Proofs.YtnfolgoloaeanaaGreat
open Go.RowKit
set_option linter.unusedVariables false

theorem view_pages {ps : List (List Int)} (hp : PgOk ps) (h : viewQ ps = 0) : ps.length ≤ 12 ∧ ∀ zs ∈ ps, Fine zs := by
  obtain ⟨h1, _, h2, _⟩ := view_zero h
  exact ⟨h1, fun zs hz => fine_of (hp zs hz).2 (pageC_fine (pagesQ_zero h2 zs hz)).1⟩
theorem PartP.readsN {w : World} {g n : Nat} {ps : List (List Int)} {F : Nat → Nat} (h : PartP w g n n ps F) (hn : ps.length = n) : PgRdN w (some ⟨g, 0, none⟩) ps := by
  refine .inr ⟨g, 0, rfl, fun i zs hz => ?_⟩
  have hi : i < n := by rw [← hn]; exact (List.getElem?_eq_some_iff.1 hz).1
  obtain ⟨h1, h2⟩ := h.c i zs hi hz
  exact ⟨_, _, by rw [Nat.zero_add]; exact h1, Nat.le_refl _, h2.reads⟩

end Go.Proofs.YtnfolgoloaeanaaGreat

/-
  A row put, plainly: codes, edits and pages.
-/
namespace Go.Proofs.YtnfolgoloaeanaaGreat
open Go.RowKit
set_option linter.unusedVariables false

def plR (ps : List (List Int)) (cs : List Int) : St × Option (Nat × Nat) := plS (-1) cs ps.length 0 ([], ps)
def inQ (ps : List (List Int)) (cs : List Int) : Int := if (plR ps cs).2.isSome = true then 0 else 9
def inE (ps : List (List Int)) (cs : List Int) : List (Int × List Int) := if (plR ps cs).2.isSome = true then (plR ps cs).1.1 else []
def inP (ps : List (List Int)) (cs : List Int) : List (List Int) := if (plR ps cs).2.isSome = true then (plR ps cs).1.2 else []
theorem in_some {ps : List (List Int)} {cs : List Int} {s : St} {x : Nat × Nat} (h : plR ps cs = (s, some x)) : inQ ps cs = 0 ∧ inE ps cs = s.1 ∧ inP ps cs = s.2 := by
  unfold inQ inE inP; rw [h]; exact ⟨rfl, rfl, rfl⟩
theorem in_none {ps : List (List Int)} {cs : List Int} {s : St} (h : plR ps cs = (s, none)) : inQ ps cs = 9 ∧ inE ps cs = [] ∧ inP ps cs = [] := by
  unfold inQ inE inP; rw [h]; exact ⟨rfl, rfl, rfl⟩
def isQ (ps : List (List Int)) (t k v : Int) (s : ByteArray) : Int := if viewQ ps = 0 then (if faultI t k v s = 0 then (if (deZ ps t k).isSome = true then 6 else inQ ps (cellBytes 0 t k v s)) else faultI t k v s) else viewQ ps
def isE (ps : List (List Int)) (t k v : Int) (s : ByteArray) : List (Int × List Int) := if viewQ ps = 0 then (if faultI t k v s = 0 then (if (deZ ps t k).isSome = true then [] else inE ps (cellBytes 0 t k v s)) else []) else []
def isP (ps : List (List Int)) (t k v : Int) (s : ByteArray) : List (List Int) := if viewQ ps = 0 then (if faultI t k v s = 0 then (if (deZ ps t k).isSome = true then [] else inP ps (cellBytes 0 t k v s)) else []) else []
section
variable {ps : List (List Int)} {t k v : Int} {s : ByteArray}
theorem is_view (h : viewQ ps ≠ 0) : isQ ps t k v s = viewQ ps ∧ isE ps t k v s = [] ∧ isP ps t k v s = [] := by
  unfold isQ isE isP; rw [if_neg h, if_neg h, if_neg h]; exact ⟨rfl, rfl, rfl⟩
theorem is_fault (h : viewQ ps = 0) (h2 : faultI t k v s ≠ 0) : isQ ps t k v s = faultI t k v s ∧ isE ps t k v s = [] ∧ isP ps t k v s = [] := by
  unfold isQ isE isP; rw [if_pos h, if_pos h, if_pos h, if_neg h2, if_neg h2, if_neg h2]; exact ⟨rfl, rfl, rfl⟩
theorem is_taken (h : viewQ ps = 0) (h2 : faultI t k v s = 0) {z : Spt} (h3 : deZ ps t k = some z) : isQ ps t k v s = 6 ∧ isE ps t k v s = [] ∧ isP ps t k v s = [] := by
  unfold isQ isE isP; rw [if_pos h, if_pos h, if_pos h, if_pos h2, if_pos h2, if_pos h2, h3]; exact ⟨rfl, rfl, rfl⟩
theorem is_in (h : viewQ ps = 0) (h2 : faultI t k v s = 0) (h3 : deZ ps t k = none) : isQ ps t k v s = inQ ps (cellBytes 0 t k v s) ∧ isE ps t k v s = inE ps (cellBytes 0 t k v s) ∧ isP ps t k v s = inP ps (cellBytes 0 t k v s) := by
  unfold isQ isE isP; rw [if_pos h, if_pos h, if_pos h, if_pos h2, if_pos h2, if_pos h2, h3]; exact ⟨rfl, rfl, rfl⟩
end

theorem cellB_len (f t k v : Int) (s : ByteArray) : (cellBytes f t k v s).length = 6 + s.size := by
  simp [cellBytes]
  omega
theorem cellB_bd {f t k v : Int} {s : ByteArray} (f0 : 0 ≤ f) (f1 : f ≤ 2) (t0 : 0 ≤ t) (t1 : t ≤ 3) (k0 : 1 ≤ k) (k1 : k ≤ 99) (v0 : 0 ≤ v) (v1 : v ≤ 999) (hs : s.size ≤ 8) : ∀ z ∈ cellBytes f t k v s, 0 ≤ z ∧ z ≤ 255 := by
  intro z hz
  unfold cellBytes at hz
  rcases List.mem_append.1 hz with h | h
  · simp only [List.mem_cons, List.not_mem_nil, or_false] at h
    rcases h with h | h | h | h | h | h <;> omega
  · obtain ⟨b, _, rfl⟩ := List.mem_map.1 h
    have := b.toNat_lt
    omega
/-- A row without a fault is within its bounds. -/
theorem fault_bounds {t k v : Int} {s : ByteArray} (h : faultI t k v s = 0) : (0 ≤ t ∧ t ≤ 3) ∧ (1 ≤ k ∧ k ≤ 99) ∧ (0 ≤ v ∧ v ≤ 999) ∧ s.size ≤ 8 := by
  unfold faultI at h
  split at h
  · rename_i h1
    split at h
    · rename_i h2
      simp only [rngB, inW, txtB, Bool.and_eq_true, decide_eq_true_eq] at h1 h2
      exact ⟨h1.1.1, h1.1.2, h1.2, h2.1⟩
    · exact absurd h (by decide)
  · exact absurd h (by decide)
theorem key_in {t k : Int} (ht : 0 ≤ t ∧ t ≤ 3) (hk : 1 ≤ k ∧ k ≤ 99) : (inR t 0 3 && inR k 1 99) = true := by
  simp [inR]; omega

/-- One block beside what is turned. -/
theorem HpS.with1 {n₀ : Nat} {X : World} {ob : Nat} {es : List (Int × List Int)} {ps : List (List Int)} {x1 : Option Addr} {k1 : Nat} {V1 : List Value} {x2 : Option Addr} {k2 : Nat} {V2 : List Value} {V V' : World} (h : HpS n₀ X ob es ps x1 k1 V1 x2 k2 V2 V) (hb : Below V.heap.size V V') {g : Nat} (hg : V.heap.size ≤ g) (hl : g < V'.heap.size) : HpX (fun q => q = g) (fun q => V'.heap[q]?) n₀ X ob es ps x1 k1 V1 x2 k2 V2 V' := by
  refine ⟨h.below hb, fun q hq hh => ?_, fun q hq hh => ?_, fun q hq e => ?_, fun _ _ => rfl, fun q hq => ?_⟩
  · have := (h.a.e.lt hh).2; omega
  · have := (h.a.p.lt hh).2; omega
  · have := h.o.lt; omega
  · rw [hq]; exact hl
theorem BytesIn.at' {lo hi g : Nat} {w : World} {zs : List Int} (h : BytesIn lo hi w (some ⟨g, 0, none⟩) zs) (h0 : 1 ≤ zs.length) : lo ≤ g ∧ g < hi := by
  rcases h with h | ⟨b, o, e, h1, h2, _⟩
  · rw [h] at h0; simp at h0
  · cases e; exact ⟨h1, h2⟩
theorem cx_of {lo hi g n : Nat} {V : World} {cs : List Int} (h : BytesIn lo hi V (some ⟨g, 0, none⟩) cs) (hn : cs.length = n) (h1 : 1 ≤ n) (h20 : n ≤ 20) (bd : ∀ z ∈ cs, 0 ≤ z ∧ z ≤ 255) : Cx (fun q => q = g) g 0 (fun q => V.heap[q]?) cs n := ⟨rfl, hn, h1, h20, bd, V, rfl, h.reads⟩

end Go.Proofs.YtnfolgoloaeanaaGreat

/-
  The model's l7Insert and InsertEdits.
-/
namespace Go.Proofs.YtnfolgoloaeanaaGreat
open Go.RowKit
set_option linter.unusedVariables false
set_option maxRecDepth 20000

set_option maxHeartbeats 4000000 in
theorem l7Insert_any (a : Option Addr) (ps : List (List Int)) (n c b o : Nat) (t k v : Int) (s : ByteArray) (w : World) (hn : ps.length = n) (h12 : n ≤ 12) (hp : PgOk ps) (hr : PgRdN w a ps) (hok : okP ps) (hrow : RowC w b o ⟨t, k, v, s⟩) (hf : faultI t k v s = 0) :
    Calls Tryz.prog 60 #[.slice a n c, .pointer (some ⟨b, o, none⟩)] w fun e w' => AePost (inQ ps (cellBytes 0 t k v s)) (inE ps (cellBytes 0 t k v s)) (inP ps (cellBytes 0 t k v s)) w e w' := by
  have hbl : b < w.heap.size := World.block_lt_of_cell? w _ hrow.c0
  obtain ⟨⟨t0, t1⟩, ⟨k0, k1⟩, ⟨v0, v1⟩, hs8⟩ := fault_bounds hf
  have hO := Rs3.new w
  have gY : Below w.heap.size w (w.alloc (.cells #[.int .i64 0, .slice none 0 0, .slice none 0 0] 31)) := by go_grown
  obtain ⟨Y, hY⟩ : ∃ Y, w.alloc (.cells #[.int .i64 0, .slice none 0 0, .slice none 0 0] 31) = Y := ⟨_, rfl⟩
  rw [hY] at hO gY
  have hwY : w.heap.size < Y.heap.size := World.block_lt_of_cell? Y _ hO.c0
  have HO : Hid (∀ V, Below Y.heap.size Y V → Rs3 V w.heap.size) := fun V hV => hO.below hV hwY
  have HRw : Hid (∀ V, Below Y.heap.size Y V → RowC V b o ⟨t, k, v, s⟩) := fun V hV => (hrow.below gY hbl).below hV (by omega)
  have HG : Hid (∀ V, Below Y.heap.size Y V → Below w.heap.size w V) := fun V hV => gY.trans (hV.mono gY.size)
  have hst := l7Start_any a ps n c Y hn (by omega) hp (hr.below gY (Nat.le_refl _))
  have hlen := cellB_len 0 t k v s
  have hbd := cellB_bd (f := 0) (by omega) (by omega) t0 t1 k0 k1 v0 v1 hs8
  have HBd : Hid (∀ z ∈ cellBytes 0 t k v s, 0 ≤ z ∧ z ≤ 255) := hbd
  have HLen : Hid ((cellBytes 0 t k v s).length = 6 + s.size) := hlen
  have HN : Hid (ps.length = n) := hn
  have HOk : Hid (okP ps) := hok
  clear hO hr gY hn hrow hbd hlen hok hf
  go_enter Tryz.func60, Tryz.ntmps60
  go_upto_region 2 with (go_at_call 111; refine hst.mono ?_; rintro e w1 ⟨ob, x2, k2, V2, rfl, hS⟩; clear hst)
  have hcc := l1CellO_any 0 t k v s b o w1 (by omega) (by omega) t0 t1 k0 k1 v0 v1 hs8 (HRw.out _ hS.g)
  go_wp2_with fail
  refine hcc.mono ?_
  rintro e w2 ⟨g, cc, rfl, g2, hB⟩
  obtain ⟨hg1, hg2⟩ := hB.at' (by rw [HLen.out]; omega)
  have hX := hS.with1 g2 hg1 hg2
  have hC := cx_of hB HLen.out (by omega) (by omega) HBd.out
  have hpl := l7Place_any _ _ Y.heap.size Y ob [] ps (-1) g 0 (6 + s.size) cc _ w2 ⟨_, _, _, _, _, _, hX⟩ HOk.out (by rw [HN.out]; exact h12) (by simp) hC
  obtain ⟨r, hr⟩ : ∃ r, plR ps (cellBytes 0 t k v s) = r := ⟨_, rfl⟩
  rw [show plS (-1) (cellBytes 0 t k v s) ps.length 0 ([], ps) = r from hr] at hpl
  have HPl : Hid (Calls Tryz.prog 112 #[.pointer (some ⟨ob, 0, none⟩), .int .i64 (-1), .slice (some ⟨g, 0, none⟩) (6 + s.size) cc] w2 fun e w' => PlPost (fun q => q = g) (fun q => w2.heap[q]?) Y.heap.size Y ob r e w') := hpl
  obtain ⟨⟨es, cur⟩, ro⟩ := r
  clear hS hcc hB hX hC hpl
  cases ro with
  | none =>
    have HE : Hid _ := in_none hr
    clear hr
    go_wp2_with fail
    refine HPl.out.mono ?_
    rintro e w3 ⟨rfl, x1, k1, V1, x2, k2, V2, hS⟩
    have hbad := l7Bad_any 9 w3
    have hg3 := hS.g
    clear HPl hS
    go_wp2_with (go_at_call 57; refine hbad.mono ?_)
    rintro e w4 ⟨rfl, g4⟩
    have g5 := hg3.trans (g4.mono hg3.size)
    obtain ⟨c0, c1, c2, f0, f1, f2⟩ := HO.out _ g5
    have g6 := HG.out _ g5
    have hgs := g6.size
    clear hbad g4 hg3
    go_wp2_with fail
    refine bodyPost_ret (v := .agg #[.int .i64 9, .slice none 0 0, .slice none 0 0]) (by simp [results, Tryz.results60, go_sem, *]) rfl ?_
    rw [HE.out.1]
    exact AePost.nil HE.out.2.1 HE.out.2.2 (by go_grown)
  | some x =>
    have HE : Hid _ := in_some hr
    clear hr
    go_wp2_with fail
    refine HPl.out.mono ?_
    rintro e w3 ⟨rfl, x1, k1, V1, x2, k2, V2, hS⟩
    have hc1 := l7Done_any ob x1 x2 es.length k1 cur.length k2 w3 hS.o
    have HS : Hid _ := hS.toHpS
    clear HPl hS
    go_wp2_with (go_at_call 114; refine hc1.mono ?_)
    rintro e w4 ⟨rfl, g4⟩
    have hS := HS.out.below g4
    have hg := HG.out _ hS.g
    have hgs := hg.size
    have HA : Hid _ := hS.out (rb := w.heap.size) hwY (Nat.le_of_lt hwY)
    obtain ⟨c0, c1, c2, f0, f1, f2⟩ := HO.out _ hS.g
    clear hS HS hc1 g4
    go_wp2_with fail
    refine bodyPost_ret (v := .agg #[.int .i64 0, .slice x1 es.length k1, .slice x2 cur.length k2]) (by simp [results, Tryz.results60, go_sem, *]) rfl ?_
    exact AePost.mk0 HE.out.1 HE.out.2.1 HE.out.2.2 (by go_grown) HA.out

end Go.Proofs.YtnfolgoloaeanaaGreat

/-
  The model's InsertEdits.
-/
namespace Go.Proofs.YtnfolgoloaeanaaGreat
open Go.RowKit
set_option linter.unusedVariables false
set_option maxRecDepth 20000

theorem RowC.at0 {w : World} {b : Nat} {t k v : Int} {s : ByteArray} (h : RowC w b 0 ⟨t, k, v, s⟩) : RowAt w b t k v s := ⟨h.c0, h.c1, h.c2, h.c3⟩
theorem AePost.of {q q' : Int} {es es' : List (Int × List Int)} {qs qs' : List (List Int)} {v1 v2 : Value} {V1 V2 : List Value} {w w' : World} (hq : q = q') (h1 : es = es') (h2 : qs = qs') (hg : Below w.heap.size w w') (hA : Ans w.heap.size w' v1 es' V1 v2 qs' V2) : AePost q es qs w (.returned (.agg #[.int .i64 q', v1, v2])) w' := by
  subst hq h1 h2
  exact ⟨_, _, _, _, rfl, hg, hA⟩
/-- An answer handed on through the result's own cells. -/
theorem Ans.res {n₀ m rb : Nat} {w : World} {v1 v2 : Value} {es : List (Int × List Int)} {qs : List (List Int)} {V1 V2 : List Value} (h : Ans n₀ w v1 es V1 v2 qs V2) (hm : m ≤ n₀) (hr : rb < n₀) (q : Int) : Ans m (((w.setCell ⟨rb, 0, none⟩ (.int .i64 q)).setCell ⟨rb, 1, none⟩ v1).setCell ⟨rb, 2, none⟩ v2) v1 es V1 v2 qs V2 := by
  have h1 : ∀ g, blkP v1 V1 g → some rb ≠ some g := fun g hg e => by have := (h.e.lt hg).1; cases e; omega
  have h2 : ∀ g, blkP v2 V2 g → some rb ≠ some g := fun g hg e => by have := (h.p.lt hg).1; cases e; omega
  exact (((h.base hm).kept (grownOut w rb 0 _) h1 h2).kept (grownOut _ rb 1 _) h1 h2).kept (grownOut _ rb 2 _) h1 h2

set_option maxHeartbeats 4000000 in
theorem specInsertEdits_any (a : Option Addr) (ps : List (List Int)) (n c : Nat) (t k v : Int) (s : ByteArray) (w : World) (hn : ps.length = n) (hm : n ≤ 1048576) (hp : PgOk ps) (hr : PgRdN w a ps) (hrd : PgRead w a ps) (hs : s.size ≤ maxLen) :
    Calls Tryz.prog 13 #[.slice a n c, .agg #[.int .i64 t, .int .i64 k, .int .i64 v, .string s]] w fun e w' => AePost (isQ ps t k v s) (isE ps t k v s) (isP ps t k v s) w e w' := by
  have HN : Hid (ps.length = n) := hn
  have HRn : Hid (PgRdN w a ps) := hr
  have HRd : Hid (PgRead w a ps) := hrd
  clear hn hr hrd
  go_enter Tryz.func13, Tryz.ntmps13
  go_upto_region 1 with (fail)
  generalize hY : World.alloc _ _ = Y
  have gY : Below w.heap.size w Y := by rw [← hY]; go_grown
  have hYs : Y.heap.size = w.heap.size + 2 := by rw [← hY]; simp
  have hrow : RowC Y w.heap.size 0 ⟨t, k, v, s⟩ := by rw [← hY]; exact ⟨by simp [go_sem], by simp [go_sem], by simp [go_sem], by simp [go_sem]⟩
  have hO : Rs3 Y (w.heap.size + 1) := by rw [← hY]; exact ⟨by simp [go_sem], by simp [go_sem], by simp [go_sem], by simp [go_sem], by simp [go_sem], by simp [go_sem]⟩
  clear hY
  obtain ⟨rb, hrb⟩ : ∃ rb, w.heap.size + 1 = rb := ⟨_, rfl⟩
  simp only [hrb] at hO ⊢
  have hrw : w.heap.size < rb := by omega
  have hry : rb < Y.heap.size := by omega
  have hby : w.heap.size < Y.heap.size := by omega
  clear hrb hYs
  have HO : Hid (∀ V, Below Y.heap.size Y V → Rs3 V rb) := fun V hV => hO.below hV hry
  have HRw : Hid (∀ V, Below Y.heap.size Y V → RowC V w.heap.size 0 ⟨t, k, v, s⟩) := fun V hV => hrow.below hV hby
  have HG : Hid (∀ V, Below Y.heap.size Y V → Below w.heap.size w V) := fun V hV => gY.trans (hV.mono gY.size)
  have HBad : Hid (∀ q V, Below Y.heap.size Y V → Calls Tryz.prog 57 #[.int .i64 q] V fun e w' => e = .returned (.agg #[.int .i64 q, .slice none 0 0, .slice none 0 0]) ∧ Below w.heap.size w w' ∧ Rs3 w' rb) := fun q V hV => by
    refine (l7Bad_any q V).mono ?_
    rintro e w' ⟨rfl, hb⟩
    have h2 := hV.trans (hb.mono hV.size)
    exact ⟨rfl, HG.out _ h2, HO.out _ h2⟩
  have hlf := l6Fault_any a ps n c Y HN.out (by omega) hp (HRd.out.below gY (Nat.le_refl _))
  clear hrow hO gY
  go_upto_region 2 with (go_at_call 56; refine hlf.mono ?_; rintro e w1 ⟨rfl, g1⟩; clear hlf)
  by_cases hv : viewQ ps = 0
  · rw [hv]
    have hft := l1Fault_any w.heap.size t k v s w1 (HRw.out _ g1).at0 hs
    have HV : Hid (viewQ ps = 0) := hv
    clear hv
    go_upto_region 5 with (go_at_call 58; refine hft.mono ?_; rintro e w2 ⟨rfl, hw2⟩; subst w2; clear hft)
    by_cases hf : faultI t k v s = 0
    · rw [hf]
      have HF : Hid (faultI t k v s = 0) := hf
      obtain ⟨⟨t0, t1⟩, ⟨k0, k1⟩, _, _⟩ := fault_bounds hf
      have hi := key_in ⟨t0, t1⟩ ⟨k0, k1⟩
      obtain ⟨q1, q2, q3, q4⟩ := view_zero HV.out
      have h12 : n ≤ 12 := by rw [← HN.out]; exact q1
      have hfd := l6Find_any a ps n c t k w1 HN.out h12 hp (HRd.out.below (HG.out _ g1) (Nat.le_refl _)) q3 q4
      have HDz : deZ ps t k = fndS (snF (mvF (spotsOf 0 ps)) (spotsOf 0 ps)) t k := by unfold deZ; rw [if_pos HV.out, if_pos hi]
      rw [← HDz] at hfd
      obtain ⟨c0, c1, c2, c3⟩ := HRw.out _ g1
      dsimp only at c0 c1 c2 c3
      rw [Nat.zero_add] at c1
      clear c2 c3 q1 q2 q3 q4 HDz hi hf
      cases hz : deZ ps t k with
      | none =>
        rw [hz] at hfd
        simp only [Option.getD_none, Option.isSome_none, zSp, zC, spE] at hfd
        have HE : Hid _ := is_in HV.out HF.out hz
        clear hz
        go_upto_region 8 with (go_at_call 59; refine hfd.mono ?_; rintro e w3 ⟨rfl, g3⟩; clear hfd)
        generalize hU : World.alloc w3 _ = U
        have gU : Below w3.heap.size w3 U := by rw [← hU]; go_grown
        clear hU c0 c1
        have gA : Below Y.heap.size Y U := (g1.trans (g3.mono g1.size)).trans (gU.mono (Nat.le_trans g1.size g3.size))
        have hin := l7Insert_any a ps n c w.heap.size 0 t k v s U HN.out h12 hp (HRn.out.below (HG.out _ gA) (Nat.le_refl _)) (view_pages hp HV.out).2 (HRw.out _ gA) HF.out
        generalize cellBytes 0 t k v s = cs at hin HE
        clear g1 g3 gU
        go_wp2_with (go_at_call 60; refine hin.mono ?_)
        rintro e w5 ⟨v1, V1, v2, V2, rfl, g5, hA⟩
        have hYU := gA.size
        have gA5 : Below Y.heap.size Y w5 := gA.trans (g5.mono hYU)
        have g6 := HG.out _ gA5
        have hgs := g6.size
        obtain ⟨c0, c1, c2, f0, f1, f2⟩ := HO.out _ gA5
        obtain ⟨a1, k1, hv1, _⟩ := hA.e.own hA.s1
        obtain ⟨a2, k2, hv2, _⟩ := hA.p.own hA.s2
        have HA : Hid _ := hA.res (m := w.heap.size) (rb := rb) (by omega) (by omega) (inQ ps cs)
        generalize inQ ps cs = q at HE HA ⊢
        generalize inE ps cs = es' at HE HA hv1 ⊢
        generalize inP ps cs = qs' at HE HA hv2 ⊢
        subst hv1 hv2
        clear hA hin gA g5 gA5
        go_wp2_with fail
        refine bodyPost_ret (v := .agg #[.int .i64 q, .slice a1 es'.length k1, .slice a2 qs'.length k2]) (by simp [results, Tryz.results13, go_sem, *]) rfl ?_
        exact AePost.of HE.out.1 HE.out.2.1 HE.out.2.2 (by go_grown) HA.out
      | some z =>
        rw [hz] at hfd
        simp only [Option.getD_some, Option.isSome_some, spE] at hfd
        have HE : Hid _ := is_taken HV.out HF.out hz
        clear hz
        go_upto_region 8 with (go_at_call 59; refine hfd.mono ?_; rintro e w3 ⟨rfl, g3⟩; clear hfd)
        generalize hU : World.alloc w3 _ = U
        have gU : Below w3.heap.size w3 U := by rw [← hU]; go_grown
        clear hU c0 c1
        have gA : Below Y.heap.size Y U := (g1.trans (g3.mono g1.size)).trans (gU.mono (Nat.le_trans g1.size g3.size))
        have hbd := HBad.out 6 U gA
        clear gA gU g1 g3
        go_wp2_with (go_at_call 57; refine hbd.mono ?_)
        rintro e w5 ⟨rfl, g5, hO5⟩
        have hgs := g5.size
        obtain ⟨c0, c1, c2, f0, f1, f2⟩ := hO5
        clear hbd
        go_wp2_with fail
        refine bodyPost_ret (v := .agg #[.int .i64 6, .slice none 0 0, .slice none 0 0]) (by simp [results, Tryz.results13, go_sem, *]) rfl ?_
        rw [HE.out.1]
        exact AePost.nil HE.out.2.1 HE.out.2.2 (by go_grown)
    · have HE : Hid _ := is_fault HV.out hf
      have dv : (faultI t k v s != 0) = true := by simpa using hf
      generalize faultI t k v s = qv at dv HE ⊢
      have hbd := HBad.out qv w1 g1
      clear hf g1
      go_wp2_with (go_at_call 57; refine hbd.mono ?_; rintro e w5 ⟨rfl, g5, hO5⟩; obtain ⟨c0, c1, c2, f0, f1, f2⟩ := hO5; clear hbd)
      have hgs := g5.size
      refine bodyPost_ret (v := .agg #[.int .i64 qv, .slice none 0 0, .slice none 0 0]) (by simp [results, Tryz.results13, go_sem, *]) rfl ?_
      rw [HE.out.1]
      exact AePost.nil HE.out.2.1 HE.out.2.2 (by go_grown)
  · have HE : Hid _ := is_view (t := t) (k := k) (v := v) (s := s) hv
    have dv : (viewQ ps != 0) = true := by simpa using hv
    generalize viewQ ps = qv at dv HE ⊢
    have hbd := HBad.out qv w1 g1
    clear hv g1
    go_wp2_with (go_at_call 57; refine hbd.mono ?_; rintro e w5 ⟨rfl, g5, hO5⟩; obtain ⟨c0, c1, c2, f0, f1, f2⟩ := hO5; clear hbd)
    have hgs := g5.size
    refine bodyPost_ret (v := .agg #[.int .i64 qv, .slice none 0 0, .slice none 0 0]) (by simp [results, Tryz.results13, go_sem, *]) rfl ?_
    rw [HE.out.1]
    exact AePost.nil HE.out.2.1 HE.out.2.2 (by go_grown)

end Go.Proofs.YtnfolgoloaeanaaGreat

/-
  The program's compact and pageAt; the closure that placeCell defers.
-/
namespace Go.Proofs.YtnfolgoloaeanaaGreat
open Go.RowKit
set_option linter.unusedVariables false
set_option maxRecDepth 20000

set_option maxHeartbeats 4000000 in
theorem compact_any (sb : Nat → Prop) (B : Nat → Option Obj) (n₀ : Nat) (X : World) (ob : Nat) (es : List (Int × List Int)) (cur : List (List Int)) (x1 : Option Addr) (k1 : Nat) (V1 : List Value) (x2 : Option Addr) (k2 : Nat) (V2 : List Value) (pn : Nat) (old : List Int) (w : World) (hS : HpX sb B n₀ X ob es cur x1 k1 V1 x2 k2 V2 w) (hok : okP cur) (hc12 : cur.length ≤ 12) (hel : es.length ≤ 900) (hp : cur[pn]? = some old) :
    Calls Tryz.prog 105 #[.pointer (some ⟨ob, 0, none⟩), .int .i64 pn] w fun e w' => TxPost sb B n₀ X ob (tnE es cur pn (cpL old)) (wpL cur pn (cpL old)) e w' := by
  have fp2 : ∀ (q s : Int) (p : Option Addr) (n c : Nat) (W : World), (Instr.field 146 (.agg #[.int .i64 q, .int .i64 s, .slice p n c]) 2).run Tryz.prog W = .ok (.slice p n c) W := fun _ _ _ _ _ _ => by kernel_rfl
  have hpl : pn < cur.length := (List.getElem?_eq_some_iff.1 hp).1
  have hF := hok.at hp
  have hl64 := hF.pg.len
  have hCf : Fine (cpL old) := fine_compact hF
  obtain ⟨gp, ay, cy, rfl, c8, hyr, hyl⟩ := hS.page hp
  rw [hl64] at c8 hyl
  have hcq : cqQ old = 0 := hF.flt
  have hcb : cqB old = cpL old := by unfold cqB; rw [if_pos hF.flt]; rfl
  have hcon := implCompactPage_own ay old 64 cy w hl64 (by omega) hyl hyr hF.pg.bd
  rw [hcq, hcb, hCf.pg.len] at hcon
  have HCon : Hid (Calls Tryz.prog 156 #[.slice ay 64 cy] w fun e w' => ∃ a' d', e = .returned (.agg #[.int .i64 0, .int .i64 0, .slice a' 64 d']) ∧ Below w.heap.size w w' ∧ PoP w w' a' d' 0 (cpL old)) := hcon
  obtain ⟨o0, o1, _, _⟩ := hS.o
  have hpi : (pn : Int) < (cur.length : Int) := by omega
  have HS : Hid (HpX sb B n₀ X ob es cur x1 k1 V1 (some ⟨gp, 0, none⟩) k2 V2 w) := hS
  have HOk : Hid (okP cur) := hok
  clear hS hcon hok hp hyr
  go_enter Tryz.func105, Tryz.ntmps105
  go_wp2_with fail
  refine HCon.out.mono ?_
  rintro e w1 ⟨a', d', rfl, g1, hpo, -⟩
  obtain ⟨g, rfl, rfl, hg, hA⟩ := hpo rfl
  have hfr := HS.out.fresh hg (o := 0) (n := 64) (c := 64)
  have hput := putEdit_any sb B n₀ X ob es cur x1 k1 V1 (some ⟨gp, 0, none⟩) k2 V2 pn (some ⟨g, 0, none⟩) 64 (cpL old) w1 (HS.out.below g1) (by omega) HOk.out.bd hCf.pg.bd hCf.pg.len hc12 (by omega) (hA.gb (by have := HS.out.sz; omega)) hfr.1 hfr.2
  clear hA hfr HS HCon c8 o0 o1 g1
  go_wp2_with fail
  refine hput.mono ?_
  rintro e w2 ⟨rfl, hR⟩
  clear hput
  go_wp2_with fail
  go_end0
  exact ⟨rfl, hR⟩

set_option maxHeartbeats 1000000 in
theorem pageAt_new (pn n k : Nat) (x : Option Addr) (w : World) (hp : n ≤ pn) (h12 : pn < 12) :
    Calls Tryz.prog 103 #[.slice x n k, .int .i64 pn] w fun e w' => e = .returned (.tuple #[.slice (some ⟨w.heap.size + 1, 0, none⟩) 64 64, .bool true]) ∧ Below w.heap.size w w' ∧ Arr w' (w.heap.size + 1) (newBytes 0) := by
  have fp2 : ∀ (q s : Int) (p : Option Addr) (n c : Nat) (W : World), (Instr.field 146 (.agg #[.int .i64 q, .int .i64 s, .slice p n c]) 2).run Tryz.prog W = .ok (.slice p n c) W := fun _ _ _ _ _ _ => by kernel_rfl
  have hpi : ¬ (pn : Int) < (n : Int) := by omega
  have hpj : (pn : Int) < 12 := by omega
  go_enter Tryz.func103, Tryz.ntmps103
  go_wp2_with fail
  refine (implNewPage_any 0 _).mono ?_
  rintro e w1 ⟨rfl, g1, hA⟩
  go_wp2_with fail
  go_ret2
  exact ⟨rfl, g1, hA⟩
set_option maxHeartbeats 1000000 in
theorem pageAt_none (pn n k : Nat) (x : Option Addr) (w : World) (hp : n ≤ pn) (h12 : 12 ≤ pn) :
    Calls Tryz.prog 103 #[.slice x n k, .int .i64 pn] w fun e w' => e = .returned (.tuple #[.slice none 0 0, .bool false]) ∧ w' = w := by
  have hpi : ¬ (pn : Int) < (n : Int) := by omega
  have hpj : ¬ (pn : Int) < 12 := by omega
  go_enter Tryz.func103, Tryz.ntmps103
  go_wp2_with fail
  go_ret2
  exact ⟨rfl, rfl⟩

set_option maxHeartbeats 1000000 in
theorem placeCl_no (kb hb ab pb : Nat) (u : FrameMode) (w : World) (hk : w.cell? ⟨kb, 0, none⟩ = some (.bool false)) :
    CallsD Tryz.prog 102 #[.pointer (some ⟨kb, 0, none⟩), .pointer (some ⟨hb, 0, none⟩), .pointer (some ⟨ab, 0, none⟩), .pointer (some ⟨pb, 0, none⟩)] u w fun e u' w' => u' = u ∧ (e = .returned (.tuple #[]) ∧ w' = w) := by
  go_enter_d Tryz.func102, Tryz.ntmps102
  go_wp2_with fail
  go_end0
  exact ⟨rfl, rfl⟩
set_option maxHeartbeats 1000000 in
theorem placeCl_yes (kb hb ab pb ob pn c : Nat) (xa : Option Addr) (R : World → Prop) (u : FrameMode) (w : World) (hk : w.cell? ⟨kb, 0, none⟩ = some (.bool true)) (hh : w.cell? ⟨hb, 0, none⟩ = some (.pointer (some ⟨ob, 0, none⟩))) (ha : w.cell? ⟨ab, 0, none⟩ = some (.int .i64 pn)) (hp : w.cell? ⟨pb, 2, none⟩ = some (.slice xa 64 c)) (hput : Calls Tryz.prog 86 #[.pointer (some ⟨ob, 0, none⟩), .int .i64 pn, .slice xa 64 c] w fun e w' => e = .returned (.tuple #[]) ∧ R w') :
    CallsD Tryz.prog 102 #[.pointer (some ⟨kb, 0, none⟩), .pointer (some ⟨hb, 0, none⟩), .pointer (some ⟨ab, 0, none⟩), .pointer (some ⟨pb, 0, none⟩)] u w fun e u' w' => u' = u ∧ (e = .returned (.tuple #[]) ∧ R w') := by
  go_enter_d Tryz.func102, Tryz.ntmps102
  go_wp2_with fail
  refine hput.mono ?_
  rintro e w1 ⟨rfl, hR⟩
  go_wp2_with fail
  go_end0
  exact ⟨rfl, hR⟩

end Go.Proofs.YtnfolgoloaeanaaGreat

/-
  What stands through the program's placeCell: pages and edits, and its own variables.
-/
namespace Go.Proofs.YtnfolgoloaeanaaGreat
open Go.RowKit
set_option linter.unusedVariables false
set_option maxRecDepth 20000

section
variable {sb : Nat → Prop} {B : Nat → Option Obj} {n₀ : Nat} {X : World} {ob : Nat} {es : List (Int × List Int)} {ps : List (List Int)} {x1 : Option Addr} {k1 : Nat} {V1 : List Value} {x2 : Option Addr} {k2 : Nat} {V2 : List Value} {V V' : World}
theorem HpX.less {P : Nat → Prop} {B' : Nat → Option Obj} (h : HpX P B' n₀ X ob es ps x1 k1 V1 x2 k2 V2 V) (hs : ∀ g, sb g → P g) (hb : ∀ g, sb g → B' g = B g) : HpX sb B n₀ X ob es ps x1 k1 V1 x2 k2 V2 V :=
  ⟨h.toHpS, fun g hg => h.m1 g (hs g hg), fun g hg => h.m2 g (hs g hg), fun g hg => h.m3 g (hs g hg), fun g hg => (h.b g (hs g hg)).trans (hb g hg), fun g hg => h.ls g (hs g hg)⟩
theorem HpX.more {P : Nat → Prop} (h : HpX sb B n₀ X ob es ps x1 k1 V1 x2 k2 V2 V) (hb : Below V.heap.size V V') (hP : ∀ g, P g → sb g ∨ (V.heap.size ≤ g ∧ g < V'.heap.size)) : HpX P (fun g => V'.heap[g]?) n₀ X ob es ps x1 k1 V1 x2 k2 V2 V' := by
  have h' := h.below hb
  refine ⟨h'.toHpS, fun g hg hh => ?_, fun g hg hh => ?_, fun g hg => ?_, fun _ _ => rfl, fun g hg => ?_⟩
  · rcases hP g hg with h1 | h1
    · exact h.m1 g h1 hh
    · have := (h.a.e.lt hh).2; omega
  · rcases hP g hg with h1 | h1
    · exact h.m2 g h1 hh
    · have := (h.a.p.lt hh).2; omega
  · rcases hP g hg with h1 | h1
    · exact h.m3 g h1
    · have := h.o.lt; omega
  · rcases hP g hg with h1 | h1
    · exact h'.ls g h1
    · exact h1.2
end
/-- The blocks of placeCell's own variables, and those of sb. -/
def pcP (sb : Nat → Prop) (hb ab kb pb : Nat) : Nat → Prop := fun g => sb g ∨ g = hb ∨ g = ab ∨ g = kb ∨ g = pb
/-- placeCell's own variables: the heap's pointer, where the cell came to stand, whether it did, what PutSlot told. -/
structure PcL (V : World) (hb ab kb pb ob : Nat) : Prop where
  h0 : V.cell? ⟨hb, 0, none⟩ = some (.pointer (some ⟨ob, 0, none⟩))
  a0 : V.cell? ⟨ab, 0, none⟩ = some (.int .i64 0)
  a1 : V.cell? ⟨ab, 1, none⟩ = some (.int .i64 0)
  k0 : V.cell? ⟨kb, 0, none⟩ = some (.bool false)
  p0 : ∃ v, V.cell? ⟨pb, 0, none⟩ = some v
  p1 : ∃ v, V.cell? ⟨pb, 1, none⟩ = some v
  p2 : ∃ v, V.cell? ⟨pb, 2, none⟩ = some v
  fa0 : V.frozen? ⟨ab, 0, none⟩ = false
  fa1 : V.frozen? ⟨ab, 1, none⟩ = false
  fk : V.frozen? ⟨kb, 0, none⟩ = false
  fp0 : V.frozen? ⟨pb, 0, none⟩ = false
  fp1 : V.frozen? ⟨pb, 1, none⟩ = false
  fp2 : V.frozen? ⟨pb, 2, none⟩ = false
theorem PcL.keep {V V' : World} {hb ab kb pb ob : Nat} (h : PcL V hb ab kb pb ob) (hk : ∀ g, g = hb ∨ g = ab ∨ g = kb ∨ g = pb → V'.heap[g]? = V.heap[g]?) : PcL V' hb ab kb pb ob := by
  have eh := hk hb (.inl rfl)
  have ea := hk ab (.inr (.inl rfl))
  have ek := hk kb (.inr (.inr (.inl rfl)))
  have ep := hk pb (.inr (.inr (.inr rfl)))
  obtain ⟨v0, e0⟩ := h.p0
  obtain ⟨v1, e1⟩ := h.p1
  obtain ⟨v2, e2⟩ := h.p2
  exact ⟨(World.cell?_of_block (a := ⟨hb, 0, none⟩) eh).trans h.h0, (World.cell?_of_block (a := ⟨ab, 0, none⟩) ea).trans h.a0, (World.cell?_of_block (a := ⟨ab, 1, none⟩) ea).trans h.a1, (World.cell?_of_block (a := ⟨kb, 0, none⟩) ek).trans h.k0, ⟨v0, (World.cell?_of_block (a := ⟨pb, 0, none⟩) ep).trans e0⟩, ⟨v1, (World.cell?_of_block (a := ⟨pb, 1, none⟩) ep).trans e1⟩, ⟨v2, (World.cell?_of_block (a := ⟨pb, 2, none⟩) ep).trans e2⟩, (World.frozen?_of_block (a := ⟨ab, 0, none⟩) ea).trans h.fa0, (World.frozen?_of_block (a := ⟨ab, 1, none⟩) ea).trans h.fa1, (World.frozen?_of_block (a := ⟨kb, 0, none⟩) ek).trans h.fk, (World.frozen?_of_block (a := ⟨pb, 0, none⟩) ep).trans h.fp0, (World.frozen?_of_block (a := ⟨pb, 1, none⟩) ep).trans h.fp1, (World.frozen?_of_block (a := ⟨pb, 2, none⟩) ep).trans h.fp2⟩
theorem put_cell {V : World} {b o q : Nat} {u : Value} (h : ∃ v, V.cell? ⟨b, q, none⟩ = some v) : ∃ v, (V.setCell ⟨b, o, none⟩ u).cell? ⟨b, q, none⟩ = some v := by
  obtain ⟨v, e⟩ := h
  by_cases e2 : q = o
  · subst e2; exact ⟨u, World.cell?_setCell_same _ _ _ e⟩
  · exact ⟨v, by rw [World.cell?_setCell_other _ _ _ _ (fun h => e2 (by simp at h; try omega))]; exact e⟩
theorem PcL.put {V : World} {hb ab kb pb ob : Nat} (h : PcL V hb ab kb pb ob) (n1 : hb ≠ pb) (n2 : ab ≠ pb) (n3 : kb ≠ pb) (o : Nat) (u : Value) : PcL (V.setCell ⟨pb, o, none⟩ u) hb ab kb pb ob := by
  have ot : ∀ (b q : Nat) (v : Value), b ≠ pb → V.cell? ⟨b, q, none⟩ = some v → (V.setCell ⟨pb, o, none⟩ u).cell? ⟨b, q, none⟩ = some v := fun b q v hn e => by
    rw [World.cell?_setCell_other _ _ _ _ (fun h => hn (by simp at h; try omega))]; exact e
  have fz : ∀ (b q : Nat), V.frozen? ⟨b, q, none⟩ = false → (V.setCell ⟨pb, o, none⟩ u).frozen? ⟨b, q, none⟩ = false := fun b q e => by rw [World.frozen?_setCell]; exact e
  exact ⟨ot _ _ _ n1 h.h0, ot _ _ _ n2 h.a0, ot _ _ _ n2 h.a1, ot _ _ _ n3 h.k0, put_cell h.p0, put_cell h.p1, put_cell h.p2, fz _ _ h.fa0, fz _ _ h.fa1, fz _ _ h.fk, fz _ _ h.fp0, fz _ _ h.fp1, fz _ _ h.fp2⟩

/-- All of it. -/
structure PcI (sb : Nat → Prop) (B : Nat → Option Obj) (n₀ : Nat) (X : World) (ob hb ab kb pb : Nat) (s : St) (V : World) : Prop where
  s : R3X (pcP sb hb ab kb pb) (fun g => V.heap[g]?) n₀ X ob s.1 s.2 V
  b : ∀ g, sb g → V.heap[g]? = B g
  l : PcL V hb ab kb pb ob
section
variable {sb : Nat → Prop} {B : Nat → Option Obj} {n₀ : Nat} {X : World} {ob : Nat} {hb ab kb pb : Nat} {s : St} {V V' : World}
theorem PcI.turn (h : PcI sb B n₀ X ob hb ab kb pb s V) {es : List (Int × List Int)} {cur : List (List Int)} (h' : R3X (pcP sb hb ab kb pb) (fun g => V.heap[g]?) n₀ X ob es cur V') : PcI sb B n₀ X ob hb ab kb pb (es, cur) V' := by
  obtain ⟨x1, k1, V1, x2, k2, V2, hx⟩ := h'
  exact ⟨⟨_, _, _, _, _, _, hx.now⟩, fun g hg => (hx.b g (.inl hg)).trans (h.b g hg), h.l.keep (fun g hg => hx.b g (.inr hg))⟩
theorem PcI.below (h : PcI sb B n₀ X ob hb ab kb pb s V) (hb' : Below V.heap.size V V') : PcI sb B n₀ X ob hb ab kb pb s V' := by
  obtain ⟨x1, k1, V1, x2, k2, V2, hx⟩ := h.s
  exact h.turn ⟨_, _, _, _, _, _, hx.below hb'⟩
theorem PcI.rd (h : PcI sb B n₀ X ob hb ab kb pb s V) {cb so n : Nat} {cs : List Int} (hC : Cx sb cb so B cs n) : Reads V (some ⟨cb, so, none⟩) cs := by
  obtain ⟨W, hW, hr⟩ := hC.rd
  rcases hr with h0 | ⟨b, o, e, hc⟩
  · exact .inl h0
  · cases e
    exact .inr ⟨_, _, rfl, fun k hk => (World.cell?_of_block (a := ⟨cb, so + k, none⟩) ((h.b cb hC.i).trans hW.symm)).trans (hc k hk)⟩
theorem PcI.put (h : PcI sb B n₀ X ob hb ab kb pb s V) (hn : n₀ ≤ pb) (hs : ∀ g, sb g → g < hb) (n1 : hb < ab) (n2 : ab < kb) (n3 : kb < pb) (o : Nat) (u : Value) : PcI sb B n₀ X ob hb ab kb pb s (V.setCell ⟨pb, o, none⟩ u) := by
  obtain ⟨x1, k1, V1, x2, k2, V2, hx⟩ := h.s
  refine ⟨⟨_, _, _, _, _, _, hx.put (.inr (.inr (.inr (.inr rfl)))) hn u⟩, fun g hg => ?_, h.l.put (by omega) (by omega) (by omega) o u⟩
  rw [Below.heap_setCell _ _ _ _ (fun e => by have := hs g hg; simp at e; omega)]
  exact h.b g hg
end

/-- The program's PutSlot at a right page. -/
def PsF (zs cs : List Int) (n : Nat) (w : World) (e : Ending) (w' : World) : Prop := Below w.heap.size w w' ∧ (putQ zs n = 0 → ∃ g, e = .returned (.agg #[.int .i64 0, .int .i64 (putS zs), .slice (some ⟨g, 0, none⟩) 64 64]) ∧ w.heap.size ≤ g ∧ Arr w' g (putP zs cs)) ∧ (putQ zs n ≠ 0 → e = .returned (.agg #[.int .i64 (putQ zs n), .int .i64 0, .slice none 0 0]))
theorem putSlot_f (a : Option Addr) (zs cs : List Int) (c n d : Nat) (cb : Option Addr) (w : World) (hF : Fine zs) (hc : 64 ≤ c) (hr : Reads w a zs) (hn : cs.length = n) (h1 : 1 ≤ n) (h20 : n ≤ 20) (hb : ∀ z ∈ cs, 0 ≤ z ∧ z ≤ 255) (hrc : Reads w cb cs) :
    Calls Tryz.prog 104 #[.slice a 64 c, .slice cb n d] w fun e w' => PsF zs cs n w e w' := by
  have hq : psQ zs n = putQ zs n := by unfold psQ; rw [if_pos hF.flt, if_pos (by simp [inR]; omega)]
  refine (implPutSlot_own a zs 64 c cb cs n d w hF.pg.len (by omega) hc hr hF.pg.bd hn (by omega) hrc hb).mono ?_
  rintro e w' ⟨a', d', rfl, g, hp⟩
  rw [hq] at hp ⊢
  refine ⟨g, fun h0 => ?_, fun h0 => ?_⟩
  · obtain ⟨q, rfl, rfl, hge, hA⟩ := hp.1 h0
    have hS : psS zs n = (putS zs : Int) := by unfold psS; rw [hq, if_pos h0]
    have hB : psB zs cs = putP zs cs := by unfold psB; rw [hn, hq, if_pos h0]
    rw [hB] at hA
    exact ⟨q, by rw [h0, hS, hB, hA.len], hge, hA⟩
  · obtain ⟨rfl, rfl, hB⟩ := hp.2 h0
    have hS : psS zs n = 0 := by unfold psS; rw [hq, if_neg h0]
    rw [hS, hB]
    rfl

end Go.Proofs.YtnfolgoloaeanaaGreat

