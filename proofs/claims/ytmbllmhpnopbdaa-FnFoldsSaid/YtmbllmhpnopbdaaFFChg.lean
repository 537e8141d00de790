/-
  Changes: their ten cells; eqChange, eqChangeS.
-/
import Derived.Test.YtmbllmhpnopbdaaFFMks

namespace Go.Proofs.Ytmbllmhpnopbdaa
open Go.RowKit
set_option linter.unusedVariables false

/-- A change. -/
structure Chg where
  was : Bool
  b : Rw
  is : Bool
  a : Rw

def chE (x : Chg) : List Value := [.bool x.was, .int .i64 x.b.t, .int .i64 x.b.k, .int .i64 x.b.v, .string x.b.s, .bool x.is, .int .i64 x.a.t, .int .i64 x.a.k, .int .i64 x.a.v, .string x.a.s]
theorem chE_len (x : Chg) : (chE x).length = 10 := rfl
structure ChC (w : World) (b o : Nat) (x : Chg) : Prop where
  c0 : w.cell? ⟨b, o, none⟩ = some (.bool x.was)
  c1 : w.cell? ⟨b, o + 1, none⟩ = some (.int .i64 x.b.t)
  c2 : w.cell? ⟨b, o + 2, none⟩ = some (.int .i64 x.b.k)
  c3 : w.cell? ⟨b, o + 3, none⟩ = some (.int .i64 x.b.v)
  c4 : w.cell? ⟨b, o + 4, none⟩ = some (.string x.b.s)
  c5 : w.cell? ⟨b, o + 5, none⟩ = some (.bool x.is)
  c6 : w.cell? ⟨b, o + 6, none⟩ = some (.int .i64 x.a.t)
  c7 : w.cell? ⟨b, o + 7, none⟩ = some (.int .i64 x.a.k)
  c8 : w.cell? ⟨b, o + 8, none⟩ = some (.int .i64 x.a.v)
  c9 : w.cell? ⟨b, o + 9, none⟩ = some (.string x.a.s)
theorem ChC.lt {w : World} {b o : Nat} {x : Chg} (h : ChC w b o x) : b < w.heap.size := World.block_lt_of_cell? w _ h.c0
theorem ChC.below {w w' : World} {b o : Nat} {x : Chg} (h : ChC w b o x) {B : Nat} (hb : Below B w w') (hB : b < B) : ChC w' b o x :=
  have up : ∀ (p : Nat) (v : Value), w.cell? ⟨b, p, none⟩ = some v → w'.cell? ⟨b, p, none⟩ = some v := fun p v h => (hb.cell (p := ⟨b, p, none⟩) hB).trans h
  ⟨up _ _ h.c0, up _ _ h.c1, up _ _ h.c2, up _ _ h.c3, up _ _ h.c4, up _ _ h.c5, up _ _ h.c6, up _ _ h.c7, up _ _ h.c8, up _ _ h.c9⟩
theorem ChC.of {w : World} {b o : Nat} {x : Chg} (h : ∀ j u, (chE x)[j]? = some u → w.cell? ⟨b, o + j, none⟩ = some u) : ChC w b o x := ⟨h 0 _ rfl, h 1 _ rfl, h 2 _ rfl, h 3 _ rfl, h 4 _ rfl, h 5 _ rfl, h 6 _ rfl, h 7 _ rfl, h 8 _ rfl, h 9 _ rfl⟩
theorem Rs.chg {w : World} {a : Option Addr} {xs : List Chg} (h : Rs chE 10 w a xs) {i : Nat} {x : Chg} (hx : xs[i]? = some x) : ∃ b off, a = some ⟨b, off, none⟩ ∧ ChC w b (off + i * 10) x := by
  rcases h with h | ⟨b, off, ha, hc⟩
  · rw [h] at hx; simp at hx
  · exact ⟨b, off, ha, ChC.of (hc i x hx)⟩

theorem infoC' : (Try.prog.info? 28).map (fun i => (i.zero, i.size, i.bytes)) = some (some (.agg #[.bool false, .int .i64 0, .int .i64 0, .int .i64 0, .string ⟨#[]⟩, .bool false, .int .i64 0, .int .i64 0, .int .i64 0, .string ⟨#[]⟩]), 10, 96) := by kernel_rfl
theorem infoC : ∃ i, Try.prog.info? 28 = some i ∧ i.zero = some (.agg #[.bool false, .int .i64 0, .int .i64 0, .int .i64 0, .string ⟨#[]⟩, .bool false, .int .i64 0, .int .i64 0, .int .i64 0, .string ⟨#[]⟩]) ∧ i.size = 10 ∧ i.bytes = 96 := by
  have h := infoC'
  cases hi : Try.prog.info? 28 with
  | none => rw [hi] at h; simp at h
  | some i => rw [hi] at h; simp at h; exact ⟨i, rfl, h.1, h.2.1, h.2.2⟩
theorem elC : ElT 24 28 chE 10 96 where
  und := Try.underlying24
  inf := by obtain ⟨i, h1, h2, h3, h4⟩ := infoC; exact ⟨i, _, h1, h2, h3, h4, rfl⟩
  len := chE_len
  one := by intro x u hu; simp [chE] at hu; rcases hu with rfl | rfl | rfl | rfl | rfl | rfl | rfl | rfl | rfl | rfl <;> rfl
  pos := by decide
  few := by decide

end Go.Proofs.Ytmbllmhpnopbdaa

/-
  Changes marked: markChangeS.
-/
namespace Go.Proofs.Ytmbllmhpnopbdaa
open Go.RowKit
set_option linter.unusedVariables false

theorem SlIn.setG {α : Type} {enc : α → List Value} {m lo hi b off i c : Nat} {w : World} {xs : List α} {x x' : α} {v : Value} (h : SlIn enc m lo hi w (some ⟨b, off, none⟩) xs) (hl : ∀ x, (enc x).length = m) (hx : xs[i]? = some x) (hc : c < m) (he : enc x' = (enc x).set c v) :
    SlIn enc m lo hi (w.setCell ⟨b, off + i * m + c, none⟩ v) (some ⟨b, off, none⟩) (xs.set i x') := by
  rcases h with rfl | ⟨b', off', e, h1, h2, hcs⟩
  · simp at hx
  · cases e
    have hil : i < xs.length := (List.getElem?_eq_some_iff.1 hx).1
    refine .inr ⟨b, off, rfl, h1, h2, fun i' y hy j u hu => ?_⟩
    rw [World.frozen?_setCell]
    by_cases e1 : i' = i
    · subst e1
      rw [List.getElem?_set_self hil] at hy
      cases hy
      rw [he] at hu
      have hj : j < m := by
        have := (List.getElem?_eq_some_iff.1 hu).1
        rw [List.length_set, hl] at this
        exact this
      obtain ⟨u0, hu0⟩ : ∃ u0, (enc x)[j]? = some u0 := ⟨_, List.getElem?_eq_getElem (by rw [hl]; exact hj)⟩
      have hold := hcs i' x hx j u0 hu0
      by_cases e2 : j = c
      · subst e2
        rw [List.getElem?_set_self (by rw [hl]; exact hj)] at hu
        cases hu
        exact ⟨World.cell?_setCell_same _ _ _ hold.1, hold.2⟩
      · rw [List.getElem?_set_ne (fun e => e2 e.symm)] at hu
        rw [hu0] at hu
        cases hu
        rw [World.cell?_setCell_other _ _ _ _ (fun e => e2 (by have := congrArg Addr.off e; simp at this; omega))]
        exact hold
    · rw [List.getElem?_set_ne (fun e => e1 e.symm)] at hy
      have hold := hcs i' y hy j u hu
      have hj : j < m := by
        have := (List.getElem?_eq_some_iff.1 hu).1
        rw [hl] at this
        exact this
      rw [World.cell?_setCell_other _ _ _ _ (fun e => e1 (by
        have h3 := congrArg Addr.off e
        simp only at h3
        have h4 : i * m + c = i' * m + j := by omega
        have h5 : (i * m + c) / m = i := by rw [Nat.mul_comm, Nat.mul_add_div (by omega), Nat.div_eq_of_lt hc, Nat.add_zero]
        have h6 : (i' * m + j) / m = i' := by rw [Nat.mul_comm, Nat.mul_add_div (by omega), Nat.div_eq_of_lt hj, Nat.add_zero]
        rw [h4, h6] at h5
        exact h5))]
      exact hold

theorem SlIn.at10 {lo hi b off i : Nat} {w : World} {xs : List Chg} {x : Chg} (h : SlIn chE 10 lo hi w (some ⟨b, off, none⟩) xs) (hx : xs[i]? = some x) : lo ≤ b ∧ b < hi ∧ ChC w b (off + i * 10) x ∧ ∀ c, c < 10 → w.frozen? ⟨b, off + i * 10 + c, none⟩ = false := by
  rcases h with rfl | ⟨b', off', e, h1, h2, hcs⟩
  · simp at hx
  · cases e
    refine ⟨h1, h2, ChC.of (fun j u hu => (hcs i x hx j u hu).1), fun c hc => ?_⟩
    exact (hcs i x hx c _ (List.getElem?_eq_getElem (by rw [chE_len]; exact hc))).2

def mB (n : Nat) : Bool := (((n % 3 : Nat) : Int) == 0)
/-- The i-th change of marks. -/
def mkC (k : Nat) (i : Nat) : Chg := ⟨mB (k + 10 * i), ⟨(k + 10 * i + 1 : Nat), (k + 10 * i + 2 : Nat), (k + 10 * i + 3 : Nat), mtx (k + 10 * i + 4)⟩, mB (k + 10 * i + 5), ⟨(k + 10 * i + 6 : Nat), (k + 10 * i + 7 : Nat), (k + 10 * i + 8 : Nat), mtx (k + 10 * i + 9)⟩⟩
def mkLC (k j : Nat) (cs : List Chg) : List Chg := (List.range j).map (mkC k) ++ cs.drop j
theorem mkLC_len {k j : Nat} {cs : List Chg} (h : j ≤ cs.length) : (mkLC k j cs).length = cs.length := by simp [mkLC]; omega
theorem mkLC_at {k j : Nat} {cs : List Chg} (h : j < cs.length) : ∃ x, (mkLC k j cs)[j]? = some x := ⟨_, List.getElem?_eq_getElem (by rw [mkLC_len (by omega)]; exact h)⟩
theorem mkLC_set {k j : Nat} {cs : List Chg} (h : j < cs.length) : (mkLC k j cs).set j (mkC k j) = mkLC k (j + 1) cs := by
  unfold mkLC
  rw [List.range_succ, List.map_append, List.set_append_right _ _ (by simp), List.length_map, List.length_range, Nat.sub_self, List.append_assoc]
  congr 1
  rw [show cs.drop j = cs[j] :: cs.drop (j + 1) from List.drop_eq_getElem_cons h]
  rfl
theorem mkLC_all {k : Nat} {cs : List Chg} : mkLC k cs.length cs = (List.range cs.length).map (mkC k) := by unfold mkLC; rw [List.drop_length, List.append_nil]

end Go.Proofs.Ytmbllmhpnopbdaa
