/-
  The contracts of bytes.Clone and of the model's l2Cell: the bytes of a cell, in new memory.
-/
import Derived.Test.YtonngopnhpmjaaaBLawA
import Derived.Test.YtonngopnhpmjaaaBRdw

namespace Go.Proofs.Ytonngopnhpmjaaa
open Go.RowKit
set_option linter.unusedVariables false

theorem reads_at {w : World} {b off : Nat} {zs : List Int} (h : Reads w (some ⟨b, off, none⟩) zs) (i : Nat) (hi : i < zs.length) : w.cell? ⟨b, off + i, none⟩ = some (.int .u8 (zs.getD i 0)) := by
  rcases h with h | ⟨b', off', ha, hc⟩
  · rw [h] at hi; simp at hi
  · simp only [Option.some.injEq, Addr.mk.injEq, and_true] at ha
    obtain ⟨rfl, rfl⟩ := ha
    exact hc i hi

/-- What wpList_append_own asks of the bytes that are appended. -/
theorem reads_src {w : World} {b off : Nat} {zs : List Int} (h : Reads w (some ⟨b, off, none⟩) zs) : ∀ j u, (zs.map (Value.int .u8))[j]? = some u → w.cell? ((⟨b, off, none⟩ : Addr).add j) = some u := by
  intro j u hu
  rw [List.getElem?_map] at hu
  cases hz : zs[j]? with
  | none => rw [hz] at hu; cases hu
  | some z =>
    rw [hz] at hu
    simp only [Option.map_some, Option.some.injEq] at hu
    subst hu
    rw [Addr.add_mid, reads_at h j (List.getElem?_eq_some_iff.1 hz).1, List.getD, hz]
    rfl

/-- The bytes of the cell of slot s. -/
def cellOf (zs : List Int) (s : Nat) : List Int := (zs.drop (nb zs (2 + 2 * s))).take (nb zs (3 + 2 * s))
theorem cellOf_length {zs : List Int} (h : Fine zs) (s : Nat) (hs : s < nb zs 0) : (cellOf zs s).length = nb zs (3 + 2 * s) := by
  have := h.end64 s hs
  have := h.pg.len
  simp [cellOf]
  omega
theorem Reads.cell {w : World} {b off : Nat} {zs : List Int} (hr : Reads w (some ⟨b, off, none⟩) zs) (p l : Nat) (hl : p + l ≤ zs.length) : Reads w (some ⟨b, off + p, none⟩) ((zs.drop p).take l) := by
  by_cases h0 : l = 0
  · exact .inl (by simp [h0])
  · refine .inr ⟨b, off + p, rfl, fun i hi => ?_⟩
    have hil : i < l := by simp at hi; omega
    rw [Nat.add_assoc, reads_at hr (p + i) (by omega)]
    simp [List.getD, hil]

set_option maxHeartbeats 1000000 in
theorem l2Cell_any (a : Option Addr) (zs : List Int) (c s : Nat) (w : World) (hr : Reads w a zs) (h : Fine zs) (hc : 64 ≤ c) (hs : s < nb zs 0) (hh : empB zs s = false) :
    Calls Try.prog 158 #[.slice a 64 c, .int .i64 s] w fun e w' => ∃ a' d, e = .returned (.slice a' (nb zs (3 + 2 * s)) d) ∧ Below w.heap.size w w' ∧ BytesIn w.heap.size w'.heap.size w' a' (cellOf zs s) := by
  obtain ⟨i0, hi, hz0, hz1, hz2⟩ := info5
  have hfew := h.few
  have hlen := cellOf_length h s hs
  have hpl := h.place s hs
  obtain ⟨b, off, rfl, hcells⟩ := hr.page h.pg
  have hb0 : b < w.heap.size := World.block_lt_of_cell? w _ (hcells 0 (by omega))
  clear hcells
  obtain ⟨p, hp⟩ : ∃ p, p = nb zs (2 + 2 * s) := ⟨_, rfl⟩
  obtain ⟨l, hl⟩ : ∃ l, l = nb zs (3 + 2 * s) := ⟨_, rfl⟩
  rw [← hp, ← hl] at hpl
  rw [← hl] at hlen ⊢
  have hsrc : Reads w (some ⟨b, off + p, none⟩) (cellOf zs s) := by unfold cellOf; rw [← hp, ← hl]; exact hr.cell p l (by rw [h.pg.len]; omega)
  have HP : Hid (nb zs (2 + 2 * s) = p) := hp.symm
  have HL : Hid (nb zs (3 + 2 * s) = l) := hl.symm
  have hne : ¬ (p = 0 ∧ l = 0) := fun e => by simp [empB, ← hp, ← hl, e.1, e.2] at hh
  have hpl2 : p ≠ 0 ∧ l ≠ 0 ∧ p + l ≤ 64 := by omega
  obtain ⟨hp0, hl0, hpl64⟩ := hpl2
  clear hp hl hpl hne hh
  generalize cellOf zs s = ys at hlen hsrc
  have hO : (w.alloc (.cells #[] 5)).ownsRow w.heap.size 5 1 (.slice (some ⟨w.heap.size, 0, none⟩) 0 0) 0 [] := by simpa using World.ownsRow_lit (base := w.heap.size) (e := 5) (size := 1) w #[] 0 (Nat.le_refl _) (by unfold maxLen; omega) rfl
  have hll : (ys.map (Value.int .u8)).length = l * 1 := by simpa using hlen
  go_enter Try.func158, Try.ntmps158
  go_wp2_with fail
  refine (l2Place_any _ zs c s _ hr h.pg (by omega)).mono ?_
  rintro e w' ⟨rfl, hw'⟩
  subst w'
  rw [HP.out]
  go_wp2_with fail
  refine (l2Size_any _ zs c s _ (hr.below (B := w.heap.size) (by go_grown) (Nat.le_refl _)) h.pg (by omega)).mono ?_
  rintro e w' ⟨rfl, hw'⟩
  subst w'
  rw [HL.out]
  have i1 : (p : Int) + (l : Int) ≤ 64 := by omega
  have i2 : (p : Int) + (l : Int) ≤ (c : Int) := by omega
  have i3 : ¬ (c = p) := by omega
  have HPP : Hid (p + l - p = l) := Nat.add_sub_cancel_left ..
  have hll2 : (ys.map (Value.int .u8)).length = (p + l - p) * 1 := by rw [HPP.out]; exact hll
  go_wp2_with (at_builtin; go_must (refine wpList_append_own _ rfl _ _ 106 rfl w.heap.size 5 i0 (.int .u8 0) 1 1 Try.underlying106 hi hz0 hz1 hz2 rfl (by decide) _ _ _ rfl hO ⟨b, off + p, none⟩ (p + l - p) (c - p) (ys.map (Value.int .u8)) rfl hll2 ?c1 ?c2 ?c3 ?c4 ?c5 ?_))
  case c1 =>
    intro j u hu
    exact reads_src (hsrc.below (B := w.heap.size) (by go_grown) (Nat.le_refl _)) j u hu
  case c2 =>
    intro u hu
    rw [List.mem_map] at hu
    obtain ⟨z, _, rfl⟩ := hu
    rfl
  case c3 => unfold maxLen; omega
  case c4 => omega
  case c5 => simp
  intro v' w1 hown' hgrow _
  have hB' : Below w.heap.size w w1 := Below.grown ((Below.refl _ _).alloc (Nat.le_refl _) _) hgrow (by simp) (fun j hj => by simp [Value.ownBlock] at hj; omega)
  clear hgrow
  go_wp2_with fail
  go_ret
  have hown : w1.ownsRow w.heap.size 5 1 v' l (ys.map (Value.int .u8)) := hown'
  obtain ⟨g, cap, rfl⟩ := Joins.ownsRow_form hown (by omega)
  exact ⟨_, _, rfl, hB', bytesIn_owns hown⟩

end Go.Proofs.Ytonngopnhpmjaaa

/-
  Cells of pages, told as lists.
-/
namespace Go.Proofs.Ytonngopnhpmjaaa
open Go.RowKit
set_option linter.unusedVariables false

/-- A cell, and where it stands. -/
structure Spt where
  p : Int
  s : Int
  c : Cel

def spE (x : Spt) : List Value := [.int .i64 x.p, .int .i64 x.s, .int .i64 x.c.q, .int .i64 x.c.f, .int .i64 x.c.p, .int .i64 x.c.l, .int .i64 x.c.t, .int .i64 x.c.k, .int .i64 x.c.v, .string x.c.s]
theorem spE_len (x : Spt) : (spE x).length = 10 := rfl

theorem unp_q (zs : List Int) : (unp zs).q = 0 ∨ (unp zs).q = 5 := by
  unfold unp
  split
  · exact .inr rfl
  · split
    · unfold stubC; split
      · exact .inl rfl
      · exact .inr rfl
    · split
      · unfold rowC; split
        · exact .inl rfl
        · exact .inr rfl
      · exact .inr rfl

/-- The cell of slot s, where there is one. -/
def oneC (p : Int) (zs : List Int) (s : Nat) : List Spt := if empB zs s = true then [] else [⟨p, s, unp (cellOf zs s)⟩]
/-- Those of the first slots. -/
def cellsTo (p : Int) (zs : List Int) : Nat → List Spt
  | 0 => []
  | k + 1 => cellsTo p zs k ++ oneC p zs k
/-- Is there one among the first slots that is no cell? -/
def badAt (zs : List Int) (k : Nat) : Bool := !(empB zs k) && decide ((unp (cellOf zs k)).q ≠ 0)
def badTo (zs : List Int) : Nat → Bool
  | 0 => false
  | k + 1 => badTo zs k || badAt zs k
/-- The code of a page and its cells. -/
def pageC (zs : List Int) : Int := if fltOf zs = 0 then (if badTo zs (nb zs 0) = true then 5 else 0) else fltOf zs
def pageL (p : Int) (zs : List Int) : List Spt := if pageC zs = 0 then cellsTo p zs (nb zs 0) else []

theorem badTo_mono (zs : List Int) : ∀ k m, badTo zs k = true → badTo zs (k + m) = true
  | _, 0, h => h
  | k, m + 1, h => by
    have := badTo_mono zs k m h
    show badTo zs (k + m + 1) = true
    simp only [badTo, this, Bool.true_or]
theorem badTo_at {zs : List Int} {k n : Nat} (h : badAt zs k = true) (hk : k < n) : badTo zs n = true := by
  obtain ⟨m, rfl⟩ : ∃ m, n = k + 1 + m := ⟨n - (k + 1), by omega⟩
  exact badTo_mono zs (k + 1) m (by simp [badTo, h])

theorem cellsTo_len (p : Int) (zs : List Int) : ∀ k, (cellsTo p zs k).length ≤ k
  | 0 => Nat.le_refl _
  | k + 1 => by
    have := cellsTo_len p zs k
    simp only [cellsTo, List.length_append]
    have : (oneC p zs k).length ≤ 1 := by unfold oneC; split <;> simp
    omega

theorem ownsRow_nil (w : World) (base e size : Nat) : w.ownsRow base e size (.slice none 0 0) 0 [] := ⟨by simp, .inl ⟨rfl, rfl⟩⟩

theorem ownsRow_ne {w : World} {base e size n g : Nat} {v : Value} {xs : List Value} {cs : Array Value} {e' : Nat} (h : w.ownsRow base e size v n xs) (hg : w.heap[g]? = some (.cells cs e')) (hne : e ≠ e') : v.ownBlock ≠ some g := by
  obtain ⟨_, ⟨rfl, _⟩ | ⟨g', cap, cur, rfl, _, hc, _⟩⟩ := h
  · simp [Value.ownBlock]
  · intro e1
    simp [Value.ownBlock] at e1
    subst e1
    rw [hc] at hg
    simp at hg
    exact hne hg.2

theorem ownsRow_below {w w' : World} {base e size n : Nat} {v : Value} {xs : List Value} (h : w.ownsRow base e size v n xs) (hb : Below w.heap.size w w') : w'.ownsRow base e size v n xs := by
  obtain ⟨hl, h1 | ⟨g, cap, cur, rfl, hbb, hc, r⟩⟩ := h
  · exact ⟨hl, .inl h1⟩
  · exact ⟨hl, .inr ⟨g, cap, cur, rfl, hbb, (hb.block g (Array.getElem?_eq_some_iff.1 hc).1).trans hc, r⟩⟩

theorem ownsRow_base {w : World} {base base' e size n : Nat} {v : Value} {xs : List Value} (h : w.ownsRow base e size v n xs) (hb : base' ≤ base) : w.ownsRow base' e size v n xs := by
  obtain ⟨hl, h1 | ⟨g, cap, cur, rfl, hbb, r⟩⟩ := h
  · exact ⟨hl, .inl h1⟩
  · exact ⟨hl, .inr ⟨g, cap, cur, rfl, Nat.le_trans hb hbb, r⟩⟩

end Go.Proofs.Ytonngopnhpmjaaa
