/-
  The program's dropCell.
-/
import Derived.Test.YtnfolgoloaeanaaGreatIPea
import Derived.Test.YtnfolgoloaeanaaGreatIFnr
import Derived.Test.YtnfolgoloaeanaaGreatIPen
import Derived.Test.YtnfolgoloaeanaaGreatIIpo
import Derived.Test.YtnfolgoloaeanaaGreatIKep
import Derived.Test.YtnfolgoloaeanaaGreatILpu

namespace Go.Proofs.YtnfolgoloaeanaaGreat
open Go.RowKit
set_option linter.unusedVariables false

theorem wrgN_none (zs : List Int) : ∀ k, (∀ s, s < k → wrgS zs s = false) → wrgN zs k = false
  | 0, _ => rfl
  | k + 1, h => by rw [wrgN, wrgN_none zs k (fun s hs => h s (by omega)), h k (by omega)]; rfl
theorem Fine.flt {zs : List Int} (h : Fine zs) : fltOf zs = 0 := by
  have hh : headB zs = false := by
    have h1 := h.few
    have h2 := h.dir
    have h3 := h.low
    simp [headB]
    omega
  unfold fltOf
  rw [if_pos h.pg.len]
  unfold faultP
  rw [hh, wrgN_none zs _ h.ok, h.com, h.ends]
  rfl
/-- An array of 64 bytes is owned. -/
theorem Arr.gb {w : World} {g base : Nat} {zs : List Int} (h : Arr w g zs) (hb : base ≤ g) : Gb base w (.slice (some ⟨g, 0, none⟩) 64 64) zs := by
  have hm : (64 : Nat) ≤ maxLen := by decide
  refine ⟨207, .inr rfl, ?_⟩
  rw [h.len]
  refine ⟨by simp [h.len], .inr ⟨g, 64, _, rfl, hb, h.row, Nat.le_refl _, hm, by rw [pgC_size, h.len], ?_⟩⟩
  simp [pgC, h.len, List.take_of_length_le]
theorem TurnS.cellAt {S : Nat → Prop} {w w' : World} (h : TurnS S w w') {b o : Nat} {v : Value} (hc : w.cell? ⟨b, o, none⟩ = some v) (hn : ¬ S b) : w'.cell? ⟨b, o, none⟩ = some v := h.cell (p := ⟨b, o, none⟩) hc hn

end Go.Proofs.YtnfolgoloaeanaaGreat

/-
  A cell placed, plainly: which page takes it, and what edits that is.
-/
namespace Go.Proofs.YtnfolgoloaeanaaGreat
open Go.RowKit
set_option linter.unusedVariables false

/-- Edits so far, and pages. -/
abbrev St := List (Int × List Int) × List (List Int)
def tnS (s : St) (p : Nat) (zs : List Int) : St := (tnE s.1 s.2 p zs, wpL s.2 p zs)
def cpL (zs : List Int) : List Int := cpP zs (nb zs 0)
/-- A cell put into page p, which may be compacted for it. -/
def piS (s : St) (p : Nat) (old cs : List Int) : St × Option Nat :=
  if putQ old cs.length = 0 then (tnS s p (putP old cs), some (putS old))
  else if putQ old cs.length = 8 then
    (if putQ (cpL old) cs.length = 0 then (tnS (tnS s p (cpL old)) p (putP (cpL old) cs), some (putS (cpL old))) else (tnS s p (cpL old), none))
  else (s, none)
/-- A new last page with a cell. -/
def nwS (s : St) (cs : List Int) : St × Option (Nat × Nat) := if 12 ≤ s.2.length then (s, none) else (tnS s s.2.length (putP (newBytes 0) cs), some (s.2.length, putS (newBytes 0)))
/-- A cell placed, in one of the k pages from p on, but not in page x, or in a new one. -/
def plS (x : Int) (cs : List Int) : Nat → Nat → St → St × Option (Nat × Nat)
  | 0, _, s => nwS s cs
  | k + 1, p, s => if (p : Int) = x then plS x cs k (p + 1) s else
    match (piS s p (s.2.getD p []) cs).2 with
    | some sl => ((piS s p (s.2.getD p []) cs).1, some (p, sl))
    | none => plS x cs k (p + 1) (piS s p (s.2.getD p []) cs).1

theorem fine_new (f : Int) (h0 : 0 ≤ f) (h1 : f ≤ 255) : Fine (newBytes f) := by
  have e0 : nb (newBytes f) 0 = 0 := rfl
  have e1 : nb (newBytes f) 1 = 64 := rfl
  refine Dirs.fine ⟨⟨by simp [newBytes], fun z hz => ?_⟩, by rw [e0]; omega, by rw [e0, e1]; omega, by rw [e1]; omega, fun j hj => absurd hj (by rw [e0]; omega), fun i k hk hi => absurd hi (by rw [e0]; omega), fun h0 => absurd h0 (by rw [e0]; omega)⟩
  simp only [newBytes, List.mem_cons, List.mem_replicate] at hz
  omega
theorem putQ_new (n : Nat) (h : n ≤ 20) : putQ (newBytes 0) n = 0 := by
  have e0 : nb (newBytes 0) 0 = 0 := rfl
  have e1 : nb (newBytes 0) 1 = 64 := rfl
  have e2 : putS (newBytes 0) = 0 := rfl
  have e3 : freeN (newBytes 0) = 62 := rfl
  have e4 : putMore (newBytes 0) = 2 := rfl
  have e5 : putM (newBytes 0) = 1 := rfl
  unfold putQ
  rw [e0, e1, e2, e3, e4, e5, if_neg (by omega), if_neg (by omega), if_neg (by omega)]
/-- A page that was compacted has its room in one piece. -/
theorem putQ_cp {zs : List Int} (h : Fine zs) (n : Nat) : putQ (cpL zs) n ≠ 8 := by
  have C := (cps_all h (nb zs 0) (Nat.le_refl _)).h0
  have hl := (both_all h (nb zs 0) (Nat.le_refl _)).low
  have hf := free_compact h
  have hs := h.sum
  have hM : 2 * putM (cpL zs) = 2 * nb (cpL zs) 0 + putMore (cpL zs) := by unfold putM putMore; split <;> omega
  unfold cpL at hM ⊢
  unfold putQ
  rw [hf, hl]
  unfold freeN
  rw [C] at hM
  split
  · decide
  · split
    · decide
    · rw [if_neg (by omega)]; decide

/-- Right pages. -/
def okP (cur : List (List Int)) : Prop := ∀ zs ∈ cur, Fine zs
theorem okP.at {cur : List (List Int)} (h : okP cur) {p : Nat} {zs : List Int} (hp : cur[p]? = some zs) : Fine zs := h zs (List.mem_of_getElem? hp)
theorem okP.bd {cur : List (List Int)} (h : okP cur) : ∀ ys ∈ cur, ∀ z ∈ ys, 0 ≤ z ∧ z ≤ 255 := fun ys hy => (h ys hy).pg.bd
theorem okP.turn {cur : List (List Int)} (h : okP cur) (p : Nat) {zs : List Int} (hz : Fine zs) : okP (wpL cur p zs) := by
  intro ys hy
  unfold wpL at hy
  split at hy
  · rcases List.mem_append.1 hy with h1 | h1
    · exact h ys h1
    · rw [List.mem_singleton.1 h1]; exact hz
  · rcases List.mem_or_eq_of_mem_set hy with h1 | h1
    · exact h ys h1
    · rw [h1]; exact hz
theorem wpL_len {cur : List (List Int)} {p : Nat} {zs : List Int} (hp : p < cur.length) : (wpL cur p zs).length = cur.length := by rw [wpL_old zs hp, List.length_set]
theorem wpL_at {cur : List (List Int)} {p : Nat} {zs : List Int} (hp : p < cur.length) : (wpL cur p zs)[p]? = some zs := by rw [wpL_old zs hp, List.getElem?_set_self hp]
/-- What is known of a state. -/
structure OkS (s : St) (m k : Nat) : Prop where
  p : okP s.2
  l : s.2.length = m
  e : s.1.length ≤ k
theorem OkS.mono {s : St} {m k k' : Nat} (h : OkS s m k) (hk : k ≤ k') : OkS s m k' := ⟨h.p, h.l, Nat.le_trans h.e hk⟩
theorem OkS.turn {s : St} {m k : Nat} (h : OkS s m k) {p : Nat} (hp : p < m) {zs : List Int} (hz : Fine zs) : OkS (tnS s p zs) m (k + 1) :=
  ⟨h.p.turn p hz, by show (wpL _ _ _).length = m; rw [wpL_len (by rw [h.l]; exact hp)]; exact h.l, by show (tnE _ _ _ _).length ≤ k + 1; have := tn_len s.1 s.2 p zs; have := h.e; omega⟩
theorem OkS.pi {s : St} {m k : Nat} (h : OkS s m k) {p : Nat} (hp : p < m) {old cs : List Int} (ho : s.2[p]? = some old) (hc : ∀ z ∈ cs, 0 ≤ z ∧ z ≤ 255) (h1 : 1 ≤ cs.length) : OkS (piS s p old cs).1 m (k + 2) := by
  have hf := h.p.at ho
  unfold piS
  split
  · rename_i hq
    exact (h.turn hp (fine_put hf hc h1 hq)).mono (by omega)
  · split
    · split
      · rename_i hq
        exact (h.turn hp (fine_compact hf)).turn hp (fine_put (fine_compact hf) hc h1 hq)
      · exact (h.turn hp (fine_compact hf)).mono (by omega)
    · exact h.mono (by omega)
theorem getD_of {cur : List (List Int)} {p : Nat} {zs : List Int} (h : cur[p]? = some zs) : cur.getD p [] = zs := by simp [List.getD, h]

end Go.Proofs.YtnfolgoloaeanaaGreat

/-
  The contract of the model's l2Set: a code, or a page without a fault.
-/
namespace Go.Proofs.YtnfolgoloaeanaaGreat
set_option maxRecDepth 20000
open Go.RowKit
set_option linter.unusedVariables false

end Go.Proofs.YtnfolgoloaeanaaGreat

