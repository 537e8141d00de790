/-
  Marks: markText, markRowS, heldRowS, markByteSS.
-/
import Derived.Test.YtmbllmhpnopbdaaFFApn
import Derived.BigQuiet

namespace Go.Proofs.Ytmbllmhpnopbdaa
open Go.RowKit
set_option linter.unusedVariables false

theorem wrapI' {x : Int} (h0 : -9223372036854775808 ≤ x) (h1 : x ≤ 9223372036854775807) : IntKind.i64.wrap x = x := by rw [IntKind.wrap_i64]; omega
theorem wrapU' {x : Int} (h0 : 0 ≤ x) (h1 : x ≤ 255) : IntKind.u8.wrap x = x := by simp [IntKind.wrap, IntKind.bits, IntKind.signed]; omega

/-- The byte of a digit. -/
def dgB (d : Nat) : UInt8 := UInt8.ofNat (48 + d)
def mtF (k : Nat) (out : ByteArray) : ByteArray := if h : k = 0 then out else mtF (k / 10) (⟨#[dgB (k % 10)]⟩ ++ out)
termination_by k
decreasing_by omega
/-- The text of a mark. -/
def mtx (n : Nat) : ByteArray := ⟨#[109]⟩ ++ mtF n ⟨#[]⟩

theorem conv_cell (W : World) (b d : Nat) (hc : W.cell? ⟨b, 0, none⟩ = some (.int .u8 (48 + (d : Nat)))) :
    (convert 22 9 (.slice (some ⟨b, 0, none⟩) 1 1)).run Try.prog W = .ok (.string ⟨#[dgB d]⟩) W := by
  have h := run_convert_bytes_arg (P := Try.prog) W 22 5 Try.underlying22 Try.underlying5 b 0 1 1 [48 + (d : Nat)] rfl (fun i hi => by
    have : i = 0 := by omega
    subst this
    simpa using hc) 9 Try.underlying9
  have e : strOfNums [48 + (d : Nat)] = ⟨#[dgB d]⟩ := by
    show (⟨#[UInt8.ofNat (48 + (d : Int)).toNat]⟩ : ByteArray) = _
    rw [show (48 + (d : Int)).toNat = 48 + d by omega]
    rfl
  rw [← e]
  exact h
theorem conv_lit (D : World) (d : Nat) (hd : d < 10) :
    (convert 22 9 (.slice (some ⟨D.heap.size, 0, none⟩) 1 1)).run Try.prog (D.alloc (.cells #[.int .u8 (48 + (d : Nat))] 5)) = .ok (.string ⟨#[dgB d]⟩) (D.alloc (.cells #[.int .u8 (48 + (d : Nat))] 5)) :=
  conv_cell _ _ d (by simp [go_sem])

theorem SlIn.set1 {lo hi b off i c : Nat} {w : World} {xs : List Rw} {x x' : Rw} {v : Value} (h : SlIn rwE 4 lo hi w (some ⟨b, off, none⟩) xs) (hx : xs[i]? = some x) (hc : c < 4) (he : rwE x' = (rwE x).set c v) :
    SlIn rwE 4 lo hi (w.setCell ⟨b, off + i * 4 + c, none⟩ v) (some ⟨b, off, none⟩) (xs.set i x') := by
  rcases h with rfl | ⟨b', off', e, h1, h2, hcs⟩
  · simp at hx
  · cases e
    have hil : i < xs.length := (List.getElem?_eq_some_iff.1 hx).1
    refine .inr ⟨b, off, rfl, h1, h2, fun i' y hy j u hu => ?_⟩
    rw [World.frozen?_setCell]
    by_cases e1 : i' = i
    · subst e1
      rw [List.getElem?_set_self hil] at hy
      cases hy
      rw [he] at hu
      have hj : j < 4 := by
        have := (List.getElem?_eq_some_iff.1 hu).1
        rw [List.length_set, rwE_len] at this
        exact this
      obtain ⟨u0, hu0⟩ : ∃ u0, (rwE x)[j]? = some u0 := ⟨_, List.getElem?_eq_getElem (by rw [rwE_len]; exact hj)⟩
      have hold := hcs i' x hx j u0 hu0
      by_cases e2 : j = c
      · subst e2
        rw [List.getElem?_set_self (by rw [rwE_len]; exact hj)] at hu
        cases hu
        exact ⟨World.cell?_setCell_same _ _ _ hold.1, hold.2⟩
      · rw [List.getElem?_set_ne (fun e => e2 e.symm)] at hu
        rw [hu0] at hu
        cases hu
        rw [World.cell?_setCell_other _ _ _ _ (fun e => e2 (by have := congrArg Addr.off e; simp at this; omega))]
        exact hold
    · rw [List.getElem?_set_ne (fun e => e1 e.symm)] at hy
      have hold := hcs i' y hy j u hu
      have hj : j < 4 := by
        have := (List.getElem?_eq_some_iff.1 hu).1
        rw [rwE_len] at this
        exact this
      rw [World.cell?_setCell_other _ _ _ _ (fun e => e1 (by have := congrArg Addr.off e; simp at this; omega))]
      exact hold

theorem SlIn.at4 {lo hi b off i : Nat} {w : World} {xs : List Rw} {x : Rw} (h : SlIn rwE 4 lo hi w (some ⟨b, off, none⟩) xs) (hx : xs[i]? = some x) : lo ≤ b ∧ b < hi ∧ RowC w b (off + i * 4) x ∧ ∀ c, c < 4 → w.frozen? ⟨b, off + i * 4 + c, none⟩ = false := by
  rcases h with rfl | ⟨b', off', e, h1, h2, hcs⟩
  · simp at hx
  · cases e
    refine ⟨h1, h2, RowC.of (fun j u hu => (hcs i x hx j u hu).1), fun c hc => ?_⟩
    exact (hcs i x hx c _ (List.getElem?_eq_getElem (by rw [rwE_len]; exact hc))).2

/-- The i-th row of marks. -/
def mkR (k : Nat) (i : Nat) : Rw := ⟨(k + 4 * i : Nat), (k + 4 * i + 1 : Nat), (k + 4 * i + 2 : Nat), mtx (k + 4 * i + 3)⟩
def mkL (k j : Nat) (rs : List Rw) : List Rw := (List.range j).map (mkR k) ++ rs.drop j
theorem mkL_len {k j : Nat} {rs : List Rw} (h : j ≤ rs.length) : (mkL k j rs).length = rs.length := by simp [mkL]; omega
theorem mkL_at {k j : Nat} {rs : List Rw} (h : j < rs.length) : ∃ x, (mkL k j rs)[j]? = some x := ⟨_, List.getElem?_eq_getElem (by rw [mkL_len (by omega)]; exact h)⟩
theorem mkL_set {k j : Nat} {rs : List Rw} (h : j < rs.length) : (mkL k j rs).set j (mkR k j) = mkL k (j + 1) rs := by
  unfold mkL
  rw [List.range_succ, List.map_append, List.set_append_right _ _ (by simp), List.length_map, List.length_range, Nat.sub_self, List.append_assoc]
  congr 1
  rw [show rs.drop j = rs[j] :: rs.drop (j + 1) from List.drop_eq_getElem_cons h]
  rfl
theorem mkL_all {k : Nat} {rs : List Rw} : mkL k rs.length rs = (List.range rs.length).map (mkR k) := by unfold mkL; rw [List.drop_length, List.append_nil]

theorem RowC.lt {w : World} {b o : Nat} {r : Rw} (h : RowC w b o r) : b < w.heap.size := World.block_lt_of_cell? w _ h.c0

end Go.Proofs.Ytmbllmhpnopbdaa
